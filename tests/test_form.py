"""The form of the package's own files, and that they reach for no clock, chance or file.

These look for what is easily got wrong; LANGUAGE.md asks for more than they can see.
"""

import ast
import builtins
import pathlib
import re
import unittest

PACKAGE = pathlib.Path(__file__).resolve().parent.parent / "flaghill"

PYTHONS_OWN_NAMES = set("""
    len range enumerate zip min max sum abs sorted reversed int str bool list tuple dict set frozenset
    isinstance ord repr any all divmod Exception ValueError TypeError KeyError IndexError LookupError
    ZeroDivisionError ArithmeticError OverflowError RuntimeError NotImplementedError AttributeError
    StopIteration
""".split())

WORDS_NOT_USED = set("""
    type typing typing_extensions enum Enum IntEnum StrEnum Flag IntFlag Generic Protocol ABC ABCMeta
    namedtuple NamedTuple TypedDict TYPE_CHECKING abstractmethod
""".split())

STATEMENTS = (
    ast.FunctionDef, ast.ClassDef, ast.ImportFrom, ast.Assign, ast.AugAssign, ast.If, ast.While, ast.For,
    ast.Return, ast.Break, ast.Continue, ast.Pass, ast.Raise, ast.Try, ast.Expr,
)


def files():
    return sorted(path for path in PACKAGE.rglob("*") if "__pycache__" not in path.parts)


def sources():
    return [(path.name, path.read_text(encoding="utf-8")) for path in files() if path.is_file()]


def nodes(kind):
    return [(name, node) for name, text in sources() for node in ast.walk(ast.parse(text)) if isinstance(node, kind)]


class FormTest(unittest.TestCase):
    def test_there_are_files_to_look_at(self):
        names = [path.name for path in files()]
        for name in ("__init__.py", "errors.py", "marks.py"):
            self.assertIn(name, names)

    def test_only_plainly_named_files(self):
        for path in files():
            with self.subTest(path=path.name):
                self.assertTrue(path.is_file())
                self.assertRegex(path.name, r"\A(__init__|[a-z][a-z0-9_]*)\.py\Z")

    def test_signs(self):
        for name, text in sources():
            with self.subTest(name=name):
                self.assertEqual(re.findall(r"[^ -~\n]", text), [])

    def test_sizes(self):
        for name, text in sources():
            rows = text.split("\n")
            with self.subTest(name=name):
                self.assertLessEqual(len(rows), 400)
                self.assertLessEqual(max(len(row) for row in rows), 120)
        for name, node in nodes(ast.FunctionDef):
            with self.subTest(name=name, function=node.name):
                self.assertLessEqual(node.end_lineno - node.lineno + 1, 40)

    def test_words(self):
        for name, text in sources():
            with self.subTest(name=name):
                self.assertEqual(set(re.findall(r"\w+", text)) & WORDS_NOT_USED, set())
                self.assertNotRegex(text, "dataclass|overload|contextmanager")

    def test_only_the_package_s_own_modules_are_imported(self):
        for name, node in nodes((ast.Import, ast.ImportFrom)):
            with self.subTest(name=name, row=node.lineno):
                self.assertIsInstance(node, ast.ImportFrom)
                self.assertEqual(node.level, 0)
                self.assertTrue(node.module.startswith("flaghill."))
                self.assertNotIn("*", [alias.name for alias in node.names])

    def test_only_the_listed_names_of_python_s_own(self):
        for name, node in nodes(ast.Name):
            if node.id in dir(builtins):
                with self.subTest(name=name, row=node.lineno):
                    self.assertIn(node.id, PYTHONS_OWN_NAMES)

    def test_only_the_listed_statements(self):
        for name, node in nodes(ast.stmt):
            with self.subTest(name=name, row=node.lineno):
                self.assertIsInstance(node, STATEMENTS)

    def test_names_begin_with_no_underscore(self):
        for name, node in nodes((ast.Name, ast.arg, ast.FunctionDef, ast.ClassDef)):
            word = getattr(node, "id", None) or getattr(node, "arg", None) or getattr(node, "name", None)
            if word not in ("__init__", "__eq__", "__repr__", "__str__", "__len__", "__all__", "__version__"):
                with self.subTest(name=name, word=word):
                    self.assertRegex(word, r"\A[A-Za-z][A-Za-z0-9_]*\Z")


if __name__ == "__main__":
    unittest.main()
