"""The form of the package's own files, and that they reach for no clock, chance or file.

These look for what is easily got wrong; LANGUAGE.md asks for more than they can see.
"""

import ast
import builtins
import pathlib
import re
import unittest

PACKAGE = pathlib.Path(__file__).resolve().parent.parent / "flaghill"

PYTHONS_OWN_NAMES = set("""
    len range enumerate zip min max sum abs sorted reversed int str bool list tuple dict set frozenset
    isinstance ord repr any all divmod Exception ValueError TypeError KeyError IndexError LookupError
    ZeroDivisionError ArithmeticError OverflowError RuntimeError NotImplementedError AttributeError
    StopIteration
""".split())

WORDS_NOT_USED = set("""
    type typing typing_extensions enum Enum IntEnum StrEnum Flag IntFlag Generic Protocol ABC ABCMeta
    namedtuple NamedTuple TypedDict TYPE_CHECKING abstractmethod
""".split())

METHODS_OF_PYTHONS_OWN = set("""
    append clear copy count endswith extend find get index insert isalnum isalpha isdigit islower isspace
    isupper items join keys ljust lower lstrip partition pop remove replace reverse rfind rjust rpartition
    rsplit rstrip setdefault split splitlines startswith strip update upper values zfill bit_length
""".split())

STATEMENTS = (
    ast.FunctionDef, ast.ClassDef, ast.ImportFrom, ast.Assign, ast.AugAssign, ast.If, ast.While, ast.For,
    ast.Return, ast.Break, ast.Continue, ast.Pass, ast.Raise, ast.Try, ast.Expr,
)


def files():
    return sorted(path for path in PACKAGE.rglob("*") if "__pycache__" not in path.parts)


def sources():
    return [(path.name, path.read_text(encoding="utf-8")) for path in files() if path.is_file()]


def nodes(kind):
    return [(name, node) for name, text in sources() for node in ast.walk(ast.parse(text)) if isinstance(node, kind)]


def bound_words():
    """The names that are given a meaning: parameters, locals, and those of a file's top."""
    words = [(name, node.arg) for name, node in nodes(ast.arg)]
    return words + [(name, node.id) for name, node in nodes(ast.Name) if isinstance(node.ctx, ast.Store)]


def own_methods():
    found = [inner for name, node in nodes(ast.ClassDef) for inner in node.body if isinstance(inner, ast.FunctionDef)]
    return {inner.name for inner in found if inner.name != "__init__"}


class FormTest(unittest.TestCase):
    def test_there_are_files_to_look_at(self):
        names = [path.name for path in files()]
        for name in ("__init__.py", "errors.py", "marks.py", "hills.py", "post.py", "day.py"):
            self.assertIn(name, names)

    def test_only_plainly_named_files(self):
        for path in files():
            with self.subTest(path=path.name):
                self.assertTrue(path.is_file())
                self.assertRegex(path.name, r"\A(__init__|[a-z][a-z0-9_]*)\.py\Z")

    def test_signs(self):
        for name, text in sources():
            with self.subTest(name=name):
                self.assertEqual(re.findall(r"[^ -~\n]", text), [])

    def test_sizes(self):
        for name, text in sources():
            rows = text.split("\n")
            with self.subTest(name=name):
                self.assertLessEqual(len(rows), 400)
                self.assertLessEqual(max(len(row) for row in rows), 120)
        for name, node in nodes(ast.FunctionDef):
            with self.subTest(name=name, function=node.name):
                self.assertLessEqual(node.end_lineno - node.lineno + 1, 40)

    def test_words(self):
        for name, text in sources():
            with self.subTest(name=name):
                self.assertEqual(set(re.findall(r"\w+", text)) & WORDS_NOT_USED, set())
                self.assertNotRegex(text, "dataclass|overload|contextmanager")

    def test_only_the_package_s_own_modules_are_imported(self):
        for name, node in nodes((ast.Import, ast.ImportFrom)):
            with self.subTest(name=name, row=node.lineno):
                self.assertIsInstance(node, ast.ImportFrom)
                self.assertEqual(node.level, 0)
                self.assertTrue(node.module.startswith("flaghill."))
                self.assertNotIn("*", [alias.name for alias in node.names])

    def test_only_the_listed_names_of_python_s_own(self):
        for name, node in nodes(ast.Name):
            if node.id in dir(builtins):
                with self.subTest(name=name, row=node.lineno):
                    self.assertIn(node.id, PYTHONS_OWN_NAMES)

    def test_only_the_listed_statements(self):
        for name, node in nodes(ast.stmt):
            with self.subTest(name=name, row=node.lineno):
                self.assertIsInstance(node, STATEMENTS)

    def test_names_begin_with_no_underscore(self):
        for name, node in nodes((ast.Name, ast.arg, ast.FunctionDef, ast.ClassDef)):
            word = getattr(node, "id", None) or getattr(node, "arg", None) or getattr(node, "name", None)
            if word not in ("__init__", "__eq__", "__repr__", "__str__", "__len__", "__all__", "__version__"):
                with self.subTest(name=name, word=word):
                    self.assertRegex(word, r"\A[A-Za-z][A-Za-z0-9_]*\Z")

    def test_nothing_else_bears_a_name_of_python_s_own(self):
        for name, word in bound_words():
            with self.subTest(name=name, word=word):
                self.assertNotIn(word, dir(builtins))

    def test_no_local_bears_the_name_of_an_import_or_a_class_of_its_file(self):
        taken = [(name, alias.name) for name, node in nodes(ast.ImportFrom) for alias in node.names]
        taken = taken + [(name, node.name) for name, node in nodes(ast.ClassDef)]
        for name, word in bound_words():
            with self.subTest(name=name, word=word):
                self.assertNotIn((name, word), taken)

    def test_imports_come_from_the_file_that_defines_the_name(self):
        for name, node in nodes(ast.ImportFrom):
            home = node.module.split(".")[-1] + ".py"
            defined = [inner.name for other, inner in nodes((ast.FunctionDef, ast.ClassDef)) if other == home]
            for alias in node.names:
                with self.subTest(name=name, word=alias.name):
                    self.assertIn(alias.name, defined)
                    self.assertIsNone(alias.asname)

    def test_no_two_files_draw_from_one_another(self):
        drawn = {name: set() for name, text in sources()}
        for name, node in nodes(ast.ImportFrom):
            drawn[name].add(node.module.split(".")[-1] + ".py")
        while drawn:
            free = [name for name in drawn if not drawn[name] & set(drawn)]
            self.assertNotEqual(free, [], drawn)
            drawn = {name: drawn[name] for name in drawn if name not in free}

    def test_methods_are_listed_or_the_package_s_own(self):
        own = own_methods()
        for name, node in nodes(ast.Call):
            if isinstance(node.func, ast.Attribute):
                with self.subTest(name=name, row=node.lineno):
                    self.assertIn(node.func.attr, METHODS_OF_PYTHONS_OWN | own)

    def test_own_methods_and_values_bear_names_of_their_own(self):
        methods = own_methods()
        values = {node.attr for name, node in nodes(ast.Attribute) if isinstance(node.ctx, ast.Store)}
        self.assertEqual(methods & values, set())
        for word in methods | values:
            for kind in (str, int, list, tuple, dict, set, bytes):
                with self.subTest(word=word, kind=kind.__name__):
                    self.assertFalse(hasattr(kind, word))

    def test_is_stands_beside_none_true_and_false_alone(self):
        for name, node in nodes(ast.Compare):
            if isinstance(node.ops[0], (ast.Is, ast.IsNot)):
                with self.subTest(name=name, row=node.lineno):
                    self.assertIsInstance(node.comparators[0], ast.Constant)
                    self.assertIn(node.comparators[0].value, (None, True, False))

    def test_one_target_in_an_assignment(self):
        for name, node in nodes(ast.Assign):
            with self.subTest(name=name, row=node.lineno):
                self.assertEqual(len(node.targets), 1)
                self.assertIsInstance(node.targets[0], (ast.Name, ast.Attribute, ast.Subscript))

    def test_plain_values(self):
        for name, node in nodes(ast.Constant):
            with self.subTest(name=name, row=node.lineno):
                self.assertIn(type(node.value), (int, str, bool, type(None)))
                self.assertNotIn("%", str(node.value))


if __name__ == "__main__":
    unittest.main()
