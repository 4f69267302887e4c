import PyProof.Rows.All
import Wide.All
import OpenK.AllK
import Wide.FinOn
import Lean
import PyProof.EqAt
import PyProof.EqKinds
import PyProof.TupleCall
import PySem.Challenge.RW_flaghill_k06_whole_as_by_numbers
set_option Elab.async false
set_option linter.all false
set_option maxRecDepth 100000
namespace L2
open PySem PySem.Spec PyProof.Rows

/-- a key: an int or a str -/
abbrev Key := Sum Int Str
def keyIs : Key → Value → Bool
  | .inl k, v => Value.isInt k v
  | .inr x, v => Value.isStrOf x v
def keyH (w : World) : Key → Int
  | .inl k => hashInt k
  | .inr x => hashStr w x
theorem keyIs_shape : ∀ {k : Key} {v : Value}, keyIs k v = true → (∃ i t, k = Sum.inl i ∧ v = Value.int i t) ∨ (∃ x t, k = Sum.inr x ∧ v = Value.str x t)
  | .inl i, v, h => by
    obtain ⟨t, e⟩ := Value.isInt_shape (k := i) (v := v) h
    exact .inl ⟨i, t, rfl, e⟩
  | .inr x, v, h => by
    obtain ⟨t, e⟩ := Value.isStrOf_shape (x := x) (v := v) h
    exact .inr ⟨x, t, rfl, e⟩
theorem keyIs_int (i : Int) (t : Tok) : keyIs (.inl i) (.int i t) = true := by simp [keyIs, Value.isInt]
theorem keyIs_str (x : Str) (t : Tok) : keyIs (.inr x) (.str x t) = true := by simp [keyIs, Value.isStrOf]
theorem key_ll (a b : Int) : decide ((Sum.inl a : Key) = Sum.inl b) = (a == b) := by
  by_cases e : a = b
  · subst e; simp
  · have h : ¬ (Sum.inl a : Key) = Sum.inl b := fun q => e (Sum.inl.inj q)
    rw [decide_eq_false h]
    exact (beq_eq_false_iff_ne.mpr e).symm
theorem key_rr (a b : Str) : decide ((Sum.inr a : Key) = Sum.inr b) = decide (a = b) := by
  by_cases e : a = b
  · subst e; simp
  · have h : ¬ (Sum.inr a : Key) = Sum.inr b := fun q => e (Sum.inr.inj q)
    rw [decide_eq_false h, decide_eq_false e]
theorem key_lr (a : Int) (b : Str) : decide ((Sum.inl a : Key) = Sum.inr b) = false := decide_eq_false (fun q => nomatch q)
theorem key_rl (a : Str) (b : Int) : decide ((Sum.inr a : Key) = Sum.inl b) = false := decide_eq_false (fun q => nomatch q)

def mixKind (prog : Program) (w : World) : PySem.KeyKind prog w Key where
  is := keyIs
  hash := keyH w
  inj := fun v a b ha hb => by
    rcases keyIs_shape ha with ⟨i, t, rfl, rfl⟩ | ⟨x, t, rfl, rfl⟩
    · rcases keyIs_shape hb with ⟨j, u, rfl, e⟩ | ⟨y, u, rfl, e⟩
      · injection e with e1 _; rw [e1]
      · exact nomatch e
    · rcases keyIs_shape hb with ⟨j, u, rfl, e⟩ | ⟨y, u, rfl, e⟩
      · exact nomatch e
      · injection e with e1 _; rw [e1]
  byValue := fun k v h => by
    rcases keyIs_shape h with ⟨i, t, rfl, rfl⟩ | ⟨x, t, rfl, rfl⟩ <;> rfl
  pyHash := fun hv h => by
    rcases keyIs_shape hv with ⟨i, t, rfl, rfl⟩ | ⟨x, t, rfl, rfl⟩
    · exact wpAny_pyHash_int h
    · exact wpAny_pyHash_str h
  eqBool := fun hu hv h => by
    rcases keyIs_shape hu with ⟨i, t, rfl, rfl⟩ | ⟨x, t, rfl, rfl⟩
    · rcases keyIs_shape hv with ⟨j, u, rfl, rfl⟩ | ⟨y, u, rfl, rfl⟩
      · rw [key_ll] at h; exact wpAny_eqBool_int h
      · rw [key_lr] at h; exact SeqAt.EqAt.int_str i t y u _ _ _ _ h
    · rcases keyIs_shape hv with ⟨j, u, rfl, rfl⟩ | ⟨y, u, rfl, rfl⟩
      · rw [key_rl] at h; exact SeqAt.EqAt.str_int x t j u _ _ _ _ h
      · rw [key_rr] at h; exact wpAny_eqBool_str h
  «strs» := fun k x t v h => by
    rcases keyIs_shape h with ⟨i, u, rfl, e⟩ | ⟨y, u, rfl, e⟩
    · exact nomatch e
    · injection e with e1 _
      subst e1
      cases v <;> rfl

theorem mixKind_is (prog : Program) (w : World) (k : Key) (v : Value) : (mixKind prog w).is k v = keyIs k v := rfl
theorem mixKind_int (prog : Program) (w : World) (i : Int) (t : Tok) : (mixKind prog w).is (.inl i) (.int i t) = true := keyIs_int i t
theorem mixKind_str (prog : Program) (w : World) (x : Str) (t : Tok) : (mixKind prog w).is (.inr x) (.str x t) = true := keyIs_str x t
end L2

namespace L2
open PySem PySem.Spec PyProof.Rows

/-- a value, without the heap -/
inductive V where
  | non | bl (b : Bool) | int (i : Int) | str (x : Str) | byt (b : Array UInt8) | flt (b : UInt64) | ref (a : Addr) | ty (n : String)
  deriving DecidableEq

def RelV : V → Value → Prop
  | .non, u => u = Value.none
  | .bl b, u => u = Value.bool b
  | .int i, u => ∃ t, u = Value.int i t
  | .str x, u => ∃ t, u = Value.str x t
  | .byt b, u => ∃ t, u = Value.bytes b t
  | .flt b, u => ∃ t, u = Value.float b t
  | .ref a, u => u = Value.ref a
  | .ty n, u => u = Value.type n

abbrev Vals : List V → List Value → Prop := Paired RelV
theorem Vals.length {xs : List V} {us : List Value} (r : Vals xs us) : xs.length = us.length := Paired.length r
theorem Vals.get : ∀ {xs : List V} {us : List Value} {i : Nat} {x : V}, Vals xs us → xs[i]? = some x → ∃ u, us[i]? = some u ∧ RelV x u
  | _, _, _, _, .nil, e => by simp at e
  | _, _, 0, _, .cons r _, e => by simp at e; subst e; exact ⟨_, rfl, r⟩
  | _, _, i + 1, x, .cons _ t, e => by
    obtain ⟨u, h1, h2⟩ := Vals.get (i := i) (x := x) t (by simpa using e)
    exact ⟨u, by simpa using h1, h2⟩
theorem Vals.set {x : V} {u : Value} (r : RelV x u) : ∀ {xs : List V} {us : List Value} (i : Nat), Vals xs us → Vals (xs.set i x) (us.set i u)
  | _, _, _, .nil => .nil
  | _, _, 0, .cons _ t => .cons r t
  | _, _, i + 1, .cons q t => .cons q (Vals.set r i t)
theorem Vals.append : ∀ {xs ys : List V} {us ws : List Value}, Vals xs us → Vals ys ws → Vals (xs ++ ys) (us ++ ws)
  | _, _, _, _, .nil, s => s
  | _, _, _, _, .cons r t, s => .cons r (Vals.append t s)
theorem Vals.take : ∀ {xs : List V} {us : List Value} (n : Nat), Vals xs us → Vals (xs.take n) (us.take n)
  | _, _, 0, _ => .nil
  | _, _, _ + 1, .nil => .nil
  | _, _, n + 1, .cons r t => .cons r (Vals.take n t)
theorem Vals.drop : ∀ {xs : List V} {us : List Value} (n : Nat), Vals xs us → Vals (xs.drop n) (us.drop n)
  | _, _, 0, r => r
  | _, _, _ + 1, .nil => .nil
  | _, _, n + 1, .cons _ t => Vals.drop n t
theorem Vals.none_of : ∀ {xs : List V} {us : List Value} {i : Nat}, Vals xs us → xs[i]? = none → us[i]? = none := fun {xs us i} r e => by
  have h1 := r.length
  have h2 : xs.length ≤ i := List.getElem?_eq_none_iff.mp e
  exact List.getElem?_eq_none_iff.mpr (by omega)

def RelO : Option V → Option Value → Prop
  | some v, some u => RelV v u
  | none, none => True
  | _, _ => False
def KV {κ : Type} : List (κ × V) → List (κ × Value) → Prop := Paired fun (p : κ × V) (q : κ × Value) => p.1 = q.1 ∧ RelV p.2 q.2

/-- a key of a dict (00_mix): an int or a text -/
def kV : Key → V
  | .inl i => .int i
  | .inr x => .str x

/-- what stands at a tracked address -/
inductive HO where
  /-- a list -/
  | lst (xs : List V)
  /-- a tuple (never changes) -/
  | tup (xs : List V)
  /-- a dict whose keys are ints and texts; one whose keys are tuples of ints and texts (the empty one is both) -/
  | dK (kvs : List (Key × V)) | dT (kvs : List (List Key × V))
  /-- a set of ints: its members, its size -/
  | set (S : Int → Bool) (n : Nat)
  /-- an instance of the class at C, its dict at dx, its attributes -/
  | ins (C dx : Addr) (fs : List (Str × V))
  /-- the dict of the instance at x -/
  | own (x : Addr)
  /-- the dict of an exception -/
  | xd (fs : List (Str × V))
  /-- a bound method, f of x -/
  | met (f x : Addr)
  /-- a range object lo, lo + 1, .. below hi -/
  | rng (lo hi : Int)
  /-- a thing that is known to the object (the script; a dict while a loop walks it): read, never written while it is so -/
  | frz (o : Obj) (u : HO)
  /-- a code object's table -/
  | tbl (ps : Array Value)
  /-- any other thing, by what is true of its one object (a def of one's own: SetO a S n := HO.ext fun h => ..) -/
  | ext (φ : Heap → Prop)

abbrev Hp := Addr → Option HO
def upd (H : Hp) (a : Addr) (o : HO) : Hp := fun b => if b = a then some o else H b
theorem upd_same {H : Hp} {a : Addr} {o : HO} : upd H a o a = some o := by unfold upd; rw [if_pos rfl]
theorem upd_ne {H : Hp} {a b : Addr} {o : HO} (h : b ≠ a) : upd H a o b = H b := by unfold upd; rw [if_neg h]
theorem upd_upd {H : Hp} {a : Addr} {o u : HO} : upd (upd H a o) a u = upd H a u := by
  funext b; unfold upd; split <;> rfl
/-- two objects of different content stand apart -/
theorem ne_of {H : Hp} {a b : Addr} {o u : HO} (h : H a = some o) (h' : H b = some u) (d : o ≠ u) : a ≠ b := by
  intro e; subst e; rw [h] at h'; exact d (Option.some.inj h')
theorem ne_of_none {H : Hp} {a b : Addr} {o : HO} (h : H a = some o) (h' : H b = none) : a ≠ b := by
  intro e; subst e; rw [h] at h'; cases h'

section
variable (P : Program) (w : World)
def ObjOk (H : Hp) (h : Heap) (a : Addr) : HO → Prop
  | .lst xs => xs.length ≤ sizeLine ∧ ∃ (its : List Value) (n : Nat), Vals xs its ∧ h.get? a = some { cls := .type "list", data := .seq its.toArray n }
  | .tup xs => xs.length ≤ sizeLine ∧ ∃ its : List Value, Vals xs its ∧ IsTup h a its.toArray
  | .dK kvs => kvs.length ≤ sizeLine ∧ (a == sysModules) = false ∧ ∃ vs, KV kvs vs ∧ h.DictOf (mixKind P w) a vs
  | .dT kvs => kvs.length ≤ sizeLine ∧ (a == sysModules) = false ∧ ∃ xs : List (List Key × Addr × Value),
      Paired (fun (p : List Key × V) (q : List Key × Addr × Value) => p.1 = q.1 ∧ H q.2.1 = some (.tup (p.1.map kV)) ∧ RelV p.2 q.2.2) kvs xs ∧
      ∃ o es ep, h.get? a = some o ∧ o.ExactDict ∧ o.data = .dict es ep ∧ es.toList = xs.map (entryOfKey (tupleKind (mixKind P w))) ∧ (xs.map (·.1)).Nodup
  | .set S n => h.SetOf (intKind P w) a S n
  | .ins C dx fs => H dx = some (.own a) ∧ fs.length ≤ 1000 ∧ dx ≠ a ∧ h.get? a = some (PySem.W.instObj C dx) ∧
      ∃ mA, h.Ns1 dx mA ∧ (∀ f, RelO (fs.lookup f) (mA f)) ∧ PySem.Within mA (fs.map (·.1))
  | .own _ => ∃ o, h.get? a = some o
  | .xd fs => ∃ mA, h.Ns1 a mA ∧ ∀ f, RelO (fs.lookup f) (mA f)
  | .rng lo hi => ∃ t u v, h.get? a = some { cls := .type "range", data := .fields #[.int lo t, .int hi u, .int 1 v] }
  | .frz o u => h.get? a = some o ∧ ObjOk H h a u
  | .tbl ps => h.get? a = some { cls := .none, data := .fields ps }
  | .met f x => h.get? a = some (PySem.W.methodObj (.ref f) (.ref x))
  | .ext φ => φ h ∧ (∃ o, h.get? a = some o) ∧ ∀ h1 h2 : Heap, φ h1 → (∀ o, h1.get? a = some o → h2.get? a = some o) → φ h2
/-- the abstract heap is held -/
def HOk (H : Hp) (h : Heap) : Prop := ∀ a o, H a = some o → ObjOk P w H h a o
end

section
variable {P : Program} {w : World} {H H' : Hp} {h h' : Heap} {a : Addr} {o : HO}
theorem ObjOk.lt (x : ObjOk P w H h a o) : a < h.objs.size := by
  cases o with
  | lst xs => obtain ⟨_, _, _, _, e⟩ := x; exact Heap.lt_size e
  | tup xs => obtain ⟨_, _, _, p⟩ := x; exact p.lt
  | dK kvs => obtain ⟨_, _, _, _, o, _, _, e, _⟩ := x; exact Heap.lt_size e
  | dT kvs => obtain ⟨_, _, _, _, o, _, _, e, _⟩ := x; exact Heap.lt_size e
  | set S n => obtain ⟨o, _, _, _, e, _⟩ := x; exact Heap.lt_size e
  | ins C dx fs => obtain ⟨_, _, _, e, _⟩ := x; exact Heap.lt_size e
  | own y => obtain ⟨_, e⟩ := x; exact Heap.lt_size e
  | xd fs => obtain ⟨_, ⟨_, _, _, e, _⟩, _⟩ := x; exact Heap.lt_size e
  | rng lo hi => obtain ⟨_, _, _, e⟩ := x; exact Heap.lt_size e
  | frz ob u => obtain ⟨e, _⟩ := x; exact Heap.lt_size e
  | tbl ps => exact Heap.lt_size (show h.get? a = some _ from x)
  | met f y => exact Heap.lt_size (show h.get? a = some _ from x)
  | ext φ => obtain ⟨_, ⟨_, e⟩, _⟩ := x; exact Heap.lt_size e
theorem Paired.mapP {α β : Type} {F G : α → β → Prop} : ∀ {l₁ : List α} {l₂ : List β}, Paired F l₁ l₂ → (∀ a b, F a b → G a b) → Paired G l₁ l₂
  | _, _, .nil, _ => .nil
  | _, _, .cons r t, f => .cons (f _ _ r) (Paired.mapP t f)
theorem Paired.imp' {α β : Type} {F G : α → β → Prop} (f : ∀ a b, F a b → G a b) {l₁ : List α} {l₂ : List β} (r : Paired F l₁ l₂) : Paired G l₁ l₂ := Paired.mapP r f
/-- what an object's description leans on: its own object, its own dict, the tuples -/
theorem ObjOk.stay (x : ObjOk P w H h a o) (k : ∀ b u, (b = a ∨ H b = some (.own a)) → h.get? b = some u → h'.get? b = some u)
    (ho : ∀ b, H b = some (.own a) → H' b = some (.own a)) (ht : ∀ b xs, H b = some (.tup xs) → H' b = some (.tup xs)) : ObjOk P w H' h' a o := by
  induction o with
  | lst xs => obtain ⟨z, its, n, r, e⟩ := x; exact ⟨z, its, n, r, k _ _ (.inl rfl) e⟩
  | tup xs => obtain ⟨z, its, r, ob, e, c⟩ := x; exact ⟨z, its, r, ob, k _ _ (.inl rfl) e, c⟩
  | dK kvs => obtain ⟨z, y, vs, r, ob, es, ep, e, c⟩ := x; exact ⟨z, y, vs, r, ob, es, ep, k _ _ (.inl rfl) e, c⟩
  | dT kvs =>
    obtain ⟨z, y, xs, r, ob, es, ep, e, c⟩ := x
    exact ⟨z, y, xs, Paired.mapP r fun p q z => ⟨z.1, ht _ _ z.2.1, z.2.2⟩, ob, es, ep, k _ _ (.inl rfl) e, c⟩
  | set S n => obtain ⟨ob, es, ep, t, e, c⟩ := x; exact ⟨ob, es, ep, t, k _ _ (.inl rfl) e, c⟩
  | ins C dx fs =>
    obtain ⟨d, z, ne, e, mA, ⟨od, es, ep, e2, c⟩, r⟩ := x
    exact ⟨ho _ d, z, ne, k _ _ (.inl rfl) e, mA, ⟨od, es, ep, k _ _ (.inr d) e2, c⟩, r⟩
  | own y => obtain ⟨ob, e⟩ := x; exact ⟨ob, k _ _ (.inl rfl) e⟩
  | xd fs => obtain ⟨mA, ⟨od, es, ep, e, c⟩, r⟩ := x; exact ⟨mA, ⟨od, es, ep, k _ _ (.inl rfl) e, c⟩, r⟩
  | rng lo hi => obtain ⟨t, u, v, e⟩ := x; exact ⟨t, u, v, k _ _ (.inl rfl) e⟩
  | frz ob u ih => obtain ⟨e, q⟩ := x; exact ⟨k _ _ (.inl rfl) e, ih q⟩
  | tbl ps =>
    have e : h.get? a = some { cls := .none, data := .fields ps } := x
    show h'.get? a = some { cls := .none, data := .fields ps }
    exact k a _ (.inl rfl) e
  | met f y =>
    have e : h.get? a = some (PySem.W.methodObj (.ref f) (.ref y)) := x
    show h'.get? a = some (PySem.W.methodObj (.ref f) (.ref y))
    exact k a _ (.inl rfl) e
  | ext φ => obtain ⟨p, ⟨o, e⟩, st⟩ := x; exact ⟨st _ _ p fun o q => k _ _ (.inl rfl) q, ⟨o, k _ _ (.inl rfl) e⟩, st⟩
theorem HOk.lt (x : HOk P w H h) (e : H a = some o) : a < h.objs.size := (x a o e).lt
theorem HOk.fresh (x : HOk P w H h) (e : h.objs.size ≤ a) : H a = none := by
  cases q : H a with
  | none => rfl
  | some u => exact absurd (Nat.lt_of_lt_of_le (x.lt q) e) (Nat.lt_irrefl _)
/-- every object of the heap is kept -/
theorem HOk.kept (x : HOk P w H h) (k : ∀ b u, h.get? b = some u → h'.get? b = some u) : HOk P w H h' := fun a o e =>
  (x a o e).stay (fun b u _ q => k b u q) (fun _ q => q) fun _ _ q => q
/-- a new object is laid and tracked -/
theorem HOk.laid (x : HOk P w H h) (k : ∀ b u, h.get? b = some u → h'.get? b = some u) (hp : h.objs.size ≤ a) (new : ObjOk P w (upd H a o) h' a o) : HOk P w (upd H a o) h' := fun b u e => by
  have hn := x.fresh hp
  by_cases hb : b = a
  · subst hb; rw [upd_same] at e; cases e; exact new
  · rw [upd_ne hb] at e
    exact (x b u e).stay (fun c v _ q => k c v q) (fun c q => by rw [upd_ne (ne_of_none q hn)]; exact q) fun c xs q => by rw [upd_ne (ne_of_none q hn)]; exact q
end

/-- what may be read as u: it is u, or a known u -/
def Rd (H : Hp) (a : Addr) (u : HO) : Prop := H a = some u ∨ ∃ o, H a = some (.frz o u)
theorem Rd.of {H : Hp} {a : Addr} {u : HO} (h : H a = some u) : Rd H a u := .inl h
theorem Rd.ok {P : Program} {w : World} {H : Hp} {h : Heap} {a : Addr} {u : HO} (r : Rd H a u) (x : HOk P w H h) : ObjOk P w H h a u := by
  rcases r with r | ⟨o, r⟩
  · exact x a u r
  · obtain ⟨_, q⟩ := x a _ r
    exact q
/-- what may be written -/
def Mut : Option HO → Prop
  | some (.lst _) => True
  | some (.dK _) => True
  | some (.dT _) => True
  | some (.set _ _) => True
  | some (.ins _ _ _) => True
  | some (.ext _) => True
  | _ => False
section
variable {P : Program} {w : World} {H : Hp} {h h' : Heap} {x e : Addr} {o' : HO}
/-- the object at e is changed: x itself, or the dict of the instance x -/
theorem HOk.write (ok : HOk P w H h) (mu : Mut (H x)) (he : e = x ∨ H e = some (.own x)) (k : ∀ b u, b ≠ e → h.get? b = some u → h'.get? b = some u) (heo : ∃ u, h'.get? e = some u)
    (new : ObjOk P w (upd H x o') h' x o') : HOk P w (upd H x o') h' := fun b u q => by
  have nown : ∀ c y, H c = some (.own y) → c ≠ x := fun c y r z => by subst z; rw [r] at mu; exact mu
  have ntup : ∀ c xs, H c = some (.tup xs) → c ≠ x := fun c xs r z => by subst z; rw [r] at mu; exact mu
  by_cases hb : b = x
  · subst hb; rw [upd_same] at q; cases q; exact new
  · rw [upd_ne hb] at q
    by_cases hbe : b = e
    · have q' : H b = some (.own x) := by
        rcases he with z | z
        · exact absurd (hbe.trans z) hb
        · rw [hbe]; exact z
      rw [q] at q'; cases q'
      obtain ⟨v, hv⟩ := heo
      exact ⟨v, by rw [hbe]; exact hv⟩
    · refine (ok b u q).stay (fun c v hc r => k c v ?_ r) (fun c r => by rw [upd_ne (nown c b r)]; exact r) fun c xs r => by rw [upd_ne (ntup c xs r)]; exact r
      rcases hc with rfl | hc
      · exact hbe
      · rintro rfl
        rcases he with z | z
        · exact nown c b hc z
        · rw [hc] at z; cases z; exact hb rfl
end

/-! ### kept unless tracked; of the frames at fs (the callers') the slots may change (an exception that passes writes there); of the records at ex (iterators) nothing is said -/
structure Un (fs ex : List Addr) (H H' : Hp) (h h' : Heap) : Prop where
  keep : ∀ b o, h.get? b = some o → H b = none → b ∉ fs → b ∉ ex → h'.get? b = some o
  slot : ∀ b o, h.get? b = some o → H b = none → b ∈ fs → b ∉ ex → ∃ sl, h'.get? b = some { o with slots := sl }
  free : ∀ b o, h.get? b = some o → H b = none → b ∉ ex → H' b = none
  there : ∀ b o, h.get? b = some o → b ∉ ex → ∃ o', h'.get? b = some o'
  tups : ∀ b xs, H b = some (.tup xs) → H' b = some (.tup xs)
  frzs : ∀ b o u, H b = some (.frz o u) → H' b = some (.frz o u)
  tbls : ∀ b ps, H b = some (.tbl ps) → ∃ more, H' b = some (.tbl (ps ++ more))
section
variable {fs fs' ex ex' : List Addr} {H H1 H2 : Hp} {h h1 h2 h' : Heap} {a x e : Addr} {o : HO}
theorem Un.any (u : Un fs ex H H1 h h1) {b : Addr} {ob : Obj} (q : h.get? b = some ob) (n : H b = none) (hx : b ∉ ex) : ∃ sl, h1.get? b = some { ob with slots := sl } := by
  by_cases hb : b ∈ fs
  · exact u.slot b ob q n hb hx
  · exact ⟨ob.slots, u.keep b ob q n hb hx⟩
theorem Un.trans (a : Un fs ex H H1 h h1) (b : Un fs ex H1 H2 h1 h2) : Un fs ex H H2 h h2 where
  keep := fun c ob q n hc hx => b.keep c ob (a.keep c ob q n hc hx) (a.free c ob q n hx) hc hx
  slot := fun c ob q n hc hx => by
    obtain ⟨sl, e1⟩ := a.slot c ob q n hc hx
    obtain ⟨sl', e2⟩ := b.slot c _ e1 (a.free c ob q n hx) hc hx
    exact ⟨sl', e2⟩
  free := fun c ob q n hx => by
    obtain ⟨o', e1⟩ := a.there c ob q hx
    exact b.free c o' e1 (a.free c ob q n hx) hx
  there := fun c ob q hx => by
    obtain ⟨o', e1⟩ := a.there c ob q hx
    exact b.there c o' e1 hx
  tups := fun c xs q => b.tups c xs (a.tups c xs q)
  frzs := fun c ob xs q => b.frzs c ob xs (a.frzs c ob xs q)
  tbls := fun c ps q => by
    obtain ⟨m1, e1⟩ := a.tbls c ps q
    obtain ⟨m2, e2⟩ := b.tbls c _ e1
    exact ⟨m1 ++ m2, by rw [e2, Array.append_assoc]⟩
theorem Un.kept (k : ∀ b u, h.get? b = some u → h'.get? b = some u) : Un fs ex H H h h' :=
  ⟨fun b ob q _ _ _ => k b ob q, fun b ob q _ _ _ => ⟨ob.slots, k b ob q⟩, fun _ _ _ n _ => n, fun b ob q _ => ⟨ob, k b ob q⟩, fun _ _ q => q, fun _ _ _ q => q, fun _ ps q => ⟨#[], by rw [q]; simp⟩⟩
theorem Un.refl : Un fs ex H H h h := Un.kept fun _ _ q => q
theorem Un.laid (k : ∀ b u, h.get? b = some u → h'.get? b = some u) (hp : h.objs.size ≤ a) (hn : H a = none) : Un fs ex H (upd H a o) h h' where
  keep := fun b u q _ _ _ => k b u q
  slot := fun b u q _ _ _ => ⟨u.slots, k b u q⟩
  free := fun b u q n _ => by rw [upd_ne (Nat.ne_of_lt (Nat.lt_of_lt_of_le (Heap.lt_size q) hp))]; exact n
  there := fun b u q _ => ⟨u, k b u q⟩
  tups := fun b xs q => by rw [upd_ne (ne_of_none q hn)]; exact q
  frzs := fun b u xs q => by rw [upd_ne (ne_of_none q hn)]; exact q
  tbls := fun b ps q => ⟨#[], by rw [upd_ne (ne_of_none q hn), q]; simp⟩
theorem Un.write (mu : Mut (H x)) (he : e = x ∨ H e = some (.own x)) (k : ∀ b u, b ≠ e → h.get? b = some u → h'.get? b = some u) (heo : ∃ u, h'.get? e = some u) : Un fs ex H (upd H x o) h h' := by
  have hx : ∀ b, H b = none → b ≠ x := fun b n z => by subst z; rw [n] at mu; exact mu
  have hb : ∀ b, H b = none → b ≠ e := fun b n z => by
    subst z
    rcases he with r | r
    · exact hx b n r
    · rw [n] at r; cases r
  have hm : ∀ b u, H b = some u → ¬ Mut (some u) → b ≠ x := fun b u q nm z => by subst z; rw [q] at mu; exact nm mu
  refine ⟨fun b u q n _ _ => k b u (hb b n) q, fun b u q n _ _ => ⟨u.slots, k b u (hb b n) q⟩, fun b u q n _ => by rw [upd_ne (hx b n)]; exact n, fun b u q _ => ?_,
    fun b xs q => by rw [upd_ne (hm b _ q fun z => z)]; exact q, fun b u xs q => by rw [upd_ne (hm b _ q fun z => z)]; exact q, fun b ps q => ⟨#[], by rw [upd_ne (hm b _ q fun z => z), q]; simp⟩⟩
  by_cases hbe : b = e
  · subst hbe; exact heo
  · exact ⟨u, k b u hbe q⟩
theorem Un.mono (u : Un fs ex H H1 h h1) (hs : ∀ b ∈ fs, b ∈ fs') (hx : ∀ b ∈ ex, b ∈ ex') : Un fs' ex' H H1 h h1 :=
  ⟨fun b ob q n hb he => u.keep b ob q n (fun z => hb (hs b z)) fun z => he (hx b z), fun _ _ q n _ he => u.any q n fun z => he (hx _ z), fun b ob q n he => u.free b ob q n fun z => he (hx b z), fun b ob q he => u.there b ob q fun z => he (hx b z), u.tups, u.frzs, u.tbls⟩
end

/-! ### the heap without what is tracked -/
def trk (h : Heap) (H : Hp) : List Addr := (List.range h.objs.size).filter fun a => (H a).isSome
def hidT (h : Heap) (H : Hp) : Heap := PySem.W.hideAll h (trk h H)
theorem hidT_size (h : Heap) (H : Hp) : (hidT h H).objs.size = h.objs.size := PySem.W.hideAll_size _ _
theorem hidT_get {h : Heap} {H : Hp} {b : Addr} {o : Obj} (e : h.get? b = some o) (n : H b = none) : (hidT h H).get? b = some o :=
  PySem.W.hideAll_get _ e fun hm => by
    have q : (H b).isSome = true := (List.mem_filter.mp hm).2
    rw [n] at q; simp at q
theorem of_hidT {h : Heap} {H : Hp} {b : Addr} {o : Obj} (e : (hidT h H).get? b = some o) : h.get? b = some o ∧ H b = none := by
  have e' : h.get? b = some o := PySem.W.of_hideAll (trk h H) e
  refine ⟨e', ?_⟩
  cases q : H b with
  | none => rfl
  | some x =>
    have hm : b ∈ trk h H := List.mem_filter.mpr ⟨List.mem_range.mpr (Heap.lt_size e'), by simp [q]⟩
    have z : (hidT h H).get? b = none := PySem.W.hideAll_none (trk h H) hm
    rw [z] at e; cases e

/-! ### OpenK's ledger, filled with every new object but one -/
def allNews (g h : Heap) (L : Addr) : List (Addr × Obj) := (List.range h.objs.size).filterMap fun a => if a = L ∨ (g.get? a).isSome = true then none else (h.get? a).map fun o => (a, o)
theorem mem_allNews {g h : Heap} {L a : Addr} {o : Obj} (h1 : a ≠ L) (h2 : g.get? a = none) (h3 : h.get? a = some o) : (a, o) ∈ allNews g h L :=
  List.mem_filterMap.mpr ⟨a, List.mem_range.mpr (Heap.lt_size h3), by simp [h1, h2, h3]⟩
theorem of_mem_allNews {g h : Heap} {L : Addr} {p : Addr × Obj} (hp : p ∈ allNews g h L) : p.1 ≠ L ∧ g.get? p.1 = none ∧ h.get? p.1 = some p.2 := by
  obtain ⟨b, _, e⟩ := List.mem_filterMap.mp hp
  split at e
  · cases e
  · rename_i hn
    cases q : h.get? b with
    | none => rw [q] at e; simp at e
    | some u =>
      rw [q] at e
      simp only [Option.map_some, Option.some.injEq] at e
      subst e
      refine ⟨fun z => hn (.inl z), ?_, q⟩
      show g.get? b = none
      cases r : g.get? b with
      | none => rfl
      | some v => exact (hn (.inr (by simp [r]))).elim
def rest (g h : Heap) (L d : Addr) : List (Addr × Obj) := (allNews g h L).filter fun p => decide (p.1 ≠ d)
theorem rest_ne {g h : Heap} {L d : Addr} : ∀ p ∈ rest g h L d, p.1 ≠ d := fun p hp => of_decide_eq_true (List.mem_filter.mp hp).2
theorem mem_rest {g h : Heap} {L d a : Addr} {o : Obj} (h1 : a ≠ L) (h2 : g.get? a = none) (h3 : h.get? a = some o) (h4 : a ≠ d) : (a, o) ∈ rest g h L d :=
  List.mem_filter.mpr ⟨mem_allNews h1 h2 h3, decide_eq_true h4⟩
theorem news_all {g h : Heap} {L : Addr} : News g L h (allNews g h L) := fun p hp => let ⟨a, b, c⟩ := of_mem_allNews hp; ⟨c, a, b⟩
theorem news_at {g h : Heap} {L d : Addr} {o : Obj} (h1 : d ≠ L) (h2 : g.get? d = none) (h3 : h.get? d = some o) : News g L h ((d, o) :: rest g h L d) := fun p hp => by
  rcases List.mem_cons.mp hp with rfl | hp
  · exact ⟨h3, h1, h2⟩
  · exact news_all p (List.mem_filter.mp hp).1
/-- behind a rule that changed d alone: all else but the frame is kept -/
theorem kept_of_news {g h h' : Heap} {L d : Addr} {m : Str → Option Value} (k : ∀ b o, g.get? b = some o → h.get? b = some o) (F : Fr g L h' m) (N : News g L h' (rest g h L d)) :
    ∀ b o, b ≠ L → b ≠ d → h.get? b = some o → h'.get? b = some o := fun b o h1 h2 e => by
  cases q : g.get? b with
  | some u =>
    have := k b u q
    rw [e] at this; cases this
    exact F.keep b _ q
  | none => exact (N (b, o) (mem_rest h1 q e h2)).1
end L2

namespace L2
open PySem PySem.Spec PyProof.Rows

/-- the module's facts, over the base: the heap at the law's entry without what is tracked there -/
structure Mod (K : PySem.W.Frag) (mg : Str → Option Value) (base : Heap) : Prop where
  kin : K.In base
  glob : base.Ns mainGlobals mg
  blt : ∃ mb, base.Ns builtinsNs mb ∧ ∀ x : Str, x ≠ "__name__" → mb x = bootBuiltins x
  nolimit : base.NoLimit

/-- the context: a def's body (or a comprehension's block) running. base: fixed through the whole law; s₀, H₀: the entry; outer: the frames whose slots others may change (a def's callers); stack: all frames that run;
   ex: iterators that were made ahead of the entry and are walked here (a comprehension's); fn: the names whose cells were made at the entry (a def: all; a comprehension's block: its own); calm: not within an except suite; pn: pins that every state bears; xe: what is wanted of an exception that leaves the code -/
structure Cx where
  prog : Program
  w : World
  K : PySem.W.Frag
  mg : Str → Option Value
  base : Heap
  A : Around
  N : List Str
  s₀ : Shared
  H₀ : Hp
  env : Env
  outer : List Env
  stack : List Env
  ex : List Addr
  fn : Str → Bool
  calm : Bool
  pn : List (Addr × Obj)
  xe : Value → Shared → Prop
/-- the callers' frames -/
def frs (l : List Env) : List Addr := l.filterMap (·.frame)
abbrev Cx.fs (X : Cx) : List Addr := frs X.outer

def Vis (sc : Scope) (x : Str) : Prop := sc.names.lookup x = some .local ∨ sc.names.lookup x = some .cell ∨ sc.names.lookup x = some .free
def Loc (sc : Scope) (x : Str) : Prop := sc.names.lookup x = some .local ∨ sc.names.lookup x = some .cell
def Look (env : Env) (h : Heap) (m : Str → Option Value) (x : Str) (u : Value) : Prop :=
  (env.kindOf x = some .local ∧ m x = some u) ∨ ((env.kindOf x = some .cell ∨ env.kindOf x = some .free) ∧ ∃ c, env.cells.lookup x = some c ∧ h.IsCell c (some u))

structure Cx.Ok (X : Cx) : Prop where
  mod : Mod X.K X.mg X.base
  kind : X.env.scope.kind = .function
  glob : X.env.globals = mainGlobals
  blt : X.env.builtins = builtinsNs
  above : X.s₀.heap.objs.size ≤ X.env.locals
  inj : ∀ x y c, X.env.cells.lookup x = some c → X.env.cells.lookup y = some c → x = y
  has : ∀ x, (X.env.kindOf x = some .cell ∨ X.env.kindOf x = some .free) → ∃ c, X.env.cells.lookup x = some c
  cab : ∀ x c, X.fn x = true → X.env.cells.lookup x = some c → X.s₀.heap.objs.size ≤ c
  hd : X.calm = true → X.A.handled = none
  frames : X.A.frames = some X.stack
  stk : X.stack = X.outer ∨ (X.stack = X.env :: X.outer ∧ X.env.frame = some X.env.locals)
  exf : ∀ b ∈ X.ex, b ≠ X.env.locals ∧ ∀ x c, X.env.cells.lookup x = some c → c ≠ b
  bs : ∀ b o, X.base.get? b = some o → X.s₀.heap.get? b = some o ∧ X.H₀ b = none
  bsz : X.base.objs.size ≤ X.s₀.heap.objs.size
  noex : ∀ b o, X.base.get? b = some o → b ∉ X.ex
  exfs : ∀ b ∈ X.ex, b ∉ X.fs
  funs : X.s₀.heap.FunFrames X.base X.outer
  frf : ∀ b ∈ X.fs, X.H₀ b = none

structure Inv (X : Cx) (pins : List (Addr × Obj)) (σ : List (Option V)) (H : Hp) (s : Shared) : Prop where
  ok : X.Ok
  os : s.os = X.s₀.os
  bare : AllBare s.gens
  base : Un X.fs X.ex X.H₀ H X.s₀.heap s.heap
  loc : ∃ m, s.heap.Ns X.env.locals m ∧ ∀ (i : Nat) (x : Str) (v : V), X.N[i]? = some x → σ[i]? = some (some v) → Vis X.env.scope x → ∃ u, RelV v u ∧ Look X.env s.heap m x u
  cell : ∀ x c, X.env.cells.lookup x = some c → ∃ v, s.heap.IsCell c v
  free : H X.env.locals = none
  freeC : ∀ x c, X.env.cells.lookup x = some c → H c = none
  pin : ∀ p ∈ X.pn ++ pins, s.heap.get? p.1 = some p.2 ∧ H p.1 = none ∧ p.1 ≠ X.env.locals ∧ p.1 ∉ X.fs ∧ ∀ v, p.2.data ≠ .cell v
  hok : HOk X.prog X.w H s.heap
  len : σ.length = X.N.length

section
variable {X : Cx} {pins : List (Addr × Obj)} {σ : List (Option V)} {H H' : Hp} {s : Shared} {h' : Heap}

theorem Cx.Ok.nofr (ok : X.Ok) {b : Addr} {o : Obj} (e : X.base.get? b = some o) : b ∉ X.fs := fun hb => by
  have := (ok.funs.mem hb).1
  rw [e] at this; cases this
theorem Inv.bs (I : Inv X pins σ H s) : ∀ b o, X.base.get? b = some o → s.heap.get? b = some o ∧ H b = none := fun b o e =>
  ⟨I.base.keep b o (I.ok.bs b o e).1 (I.ok.bs b o e).2 (I.ok.nofr e) (I.ok.noex b o e), I.base.free b o (I.ok.bs b o e).1 (I.ok.bs b o e).2 (I.ok.noex b o e)⟩
theorem Inv.bk (I : Inv X pins σ H s) : ∀ b o, X.base.get? b = some o → s.heap.get? b = some o := fun b o e => (I.bs b o e).1
theorem Inv.mod (I : Inv X pins σ H s) : Mod X.K X.mg X.base := I.ok.mod
theorem Inv.kIn (I : Inv X pins σ H s) : X.K.In s.heap := I.ok.mod.kin.keeps I.bk
theorem Inv.nolimit (I : Inv X pins σ H s) : s.heap.NoLimit := I.ok.mod.nolimit.keeps I.bk
/-- the frame over the base: for OpenK's rules (K.In X.base is I.mod.kin) -/
theorem Inv.fr (I : Inv X pins σ H s) : ∃ m, Fr X.base X.env.locals s.heap m :=
  let ⟨m, hn, _⟩ := I.loc
  ⟨m, hn, I.bk, Nat.le_trans I.ok.bsz I.ok.above⟩
theorem Inv.lt (I : Inv X pins σ H s) : X.env.locals < s.heap.objs.size := let ⟨_, hn, _⟩ := I.loc; hn.lt
theorem Inv.sz (I : Inv X pins σ H s) : X.s₀.heap.objs.size ≤ s.heap.objs.size := Nat.le_trans I.ok.above (Nat.le_of_lt I.lt)
theorem Inv.nofs (I : Inv X pins σ H s) {a : Addr} (h : s.heap.objs.size ≤ a) : a ∉ X.fs := fun hb => by
  obtain ⟨_, o, ho, _⟩ := I.ok.funs.mem hb
  exact absurd (Nat.lt_of_lt_of_le (Heap.lt_size ho) (Nat.le_trans I.sz h)) (Nat.lt_irrefl _)
theorem Inv.cne (I : Inv X pins σ H s) : ∀ x c, X.env.cells.lookup x = some c → c ≠ X.env.locals := fun x c e z => by
  obtain ⟨v, o, ho, hd⟩ := I.cell x c e
  obtain ⟨m, ⟨o', es, ep, ho', hd', _⟩, _⟩ := I.loc
  rw [z, ho'] at ho; cases ho; rw [hd'] at hd; cases hd
theorem Inv.funs (I : Inv X pins σ H s) : s.heap.FunFrames X.base X.outer := by
  have all : ∀ (l : List Env), (∀ b ∈ frs l, b ∈ X.fs) → X.s₀.heap.FunFrames X.base l → s.heap.FunFrames X.base l := by
    intro l
    induction l with
    | nil => intro _ _; trivial
    | cons env r ih =>
      intro hs hl
      obtain ⟨hk, ⟨L, o, hf, hn, ho, hd⟩, hr⟩ := hl
      have hL : L ∈ X.fs := hs L (by unfold frs; rw [List.filterMap_cons, hf]; exact List.mem_cons_self)
      obtain ⟨sl, e⟩ := I.base.slot L o ho (I.ok.frf L hL) hL fun z => I.ok.exfs L z hL
      exact ⟨hk, ⟨L, _, hf, hn, e, hd⟩, ih (fun b hb => hs b (by unfold frs; rw [List.filterMap_cons, hf]; exact List.mem_cons_of_mem _ hb)) hr⟩
  exact all X.outer (fun _ hb => hb) I.ok.funs

/-- the frames that run, for a call -/
theorem Inv.stack (I : Inv X pins σ H s) : s.heap.FunFrames X.base X.stack := by
  rcases I.ok.stk with e | ⟨e, hf⟩
  · rw [e]; exact I.funs
  · rw [e]
    obtain ⟨m, hn, _⟩ := I.loc
    refine .cons (by rw [I.ok.kind]; decide) hf hn ?_ I.funs
    exact Heap.get?_none_of_le (Nat.le_trans I.ok.bsz I.ok.above)
theorem Inv.stkSub (I : Inv X pins σ H s) : ∀ b ∈ frs X.stack, b ∈ X.env.locals :: X.fs := fun b hb => by
  rcases I.ok.stk with e | ⟨e, hf⟩
  · rw [e] at hb; exact List.mem_cons_of_mem _ hb
  · rw [e] at hb
    unfold frs at hb
    rw [List.filterMap_cons, hf] at hb
    exact hb
theorem Inv.stkFree (I : Inv X pins σ H s) : ∀ b ∈ frs X.stack, H b = none := fun b hb => by
  rcases List.mem_cons.mp (I.stkSub b hb) with e | hb
  · rw [e]; exact I.free
  · obtain ⟨_, o, ho, _⟩ := I.ok.funs.mem hb
    exact I.base.free b o ho (I.ok.frf b hb) fun z => I.ok.exfs b z hb

/-- THE STEP: the untracked objects but the frame and the records at ch are kept (the callers' frames up to slots), the frame's map is kept, the new abstract heap is held -/
theorem Inv.step {g' : Array GenState} {t' : Nat} {d' : Drawn} {ch : List Addr} (I : Inv X pins σ H s)
    (hch : ∀ b ∈ ch, (b ∈ X.ex ∨ X.s₀.heap.objs.size ≤ b) ∧ b ≠ X.env.locals ∧ (∀ x c, X.env.cells.lookup x = some c → c ≠ b) ∧ ∀ p ∈ X.pn ++ pins, p.1 ≠ b)
    (keep : ∀ b o, b ≠ X.env.locals → b ∉ X.fs → b ∉ ch → s.heap.get? b = some o → H b = none → h'.get? b = some o)
    (slot : ∀ b o, b ≠ X.env.locals → b ∈ X.fs → b ∉ ch → s.heap.get? b = some o → H b = none → ∃ sl, h'.get? b = some { o with slots := sl }) (free : ∀ b o, b ∉ ch → s.heap.get? b = some o → H b = none → H' b = none)
    (there : ∀ b o, b ∉ ch → s.heap.get? b = some o → ∃ o', h'.get? b = some o')
    (tups : ∀ b xs, H b = some (.tup xs) → H' b = some (.tup xs)) (frzs : ∀ b o u, H b = some (.frz o u) → H' b = some (.frz o u)) (tbls : ∀ b ps, H b = some (.tbl ps) → ∃ more, H' b = some (.tbl (ps ++ more)))
    (ns : ∀ m, s.heap.Ns X.env.locals m → h'.Ns X.env.locals m) (hok : HOk X.prog X.w H' h') (hg : AllBare g') :
    Inv X pins σ H' { s with heap := h', gens := g', drawn := d', toks := t' } := by
  have neL : ∀ b o, X.s₀.heap.get? b = some o → b ≠ X.env.locals := fun b o e => Nat.ne_of_lt (Nat.lt_of_lt_of_le (Heap.lt_size e) I.ok.above)
  have neC : ∀ b o, X.s₀.heap.get? b = some o → b ∉ X.ex → b ∉ ch := fun b o e hx hb => by
    rcases (hch b hb).1 with z | z
    · exact hx z
    · exact absurd (Nat.lt_of_lt_of_le (Heap.lt_size e) z) (Nat.lt_irrefl _)
  have cellK : ∀ x c, X.env.cells.lookup x = some c → ∀ v, s.heap.IsCell c v → h'.IsCell c v := fun x c e v ⟨o, ho, hd⟩ => by
    have nch : c ∉ ch := fun z => (hch c z).2.2.1 x c e rfl
    by_cases hc : c ∈ X.fs
    · obtain ⟨sl, q⟩ := slot c o (I.cne x c e) hc nch ho (I.freeC x c e)
      exact ⟨_, q, hd⟩
    · exact ⟨o, keep c o (I.cne x c e) hc nch ho (I.freeC x c e), hd⟩
  refine ⟨I.ok, I.os, hg, ⟨fun b o e n hb hx => ?_, fun b o e n hb hx => ?_, fun b o e n hx => ?_, fun b o e hx => ?_, fun b xs e => tups b xs (I.base.tups b xs e), fun b o xs e => frzs b o xs (I.base.frzs b o xs e), fun b ps e => ?_⟩, ?_, fun x c e => ?_, ?_, fun x c e => ?_, fun p hp => ?_, hok, I.len⟩
  · exact keep b o (neL b o e) hb (neC b o e hx) (I.base.keep b o e n hb hx) (I.base.free b o e n hx)
  · obtain ⟨sl, e1⟩ := I.base.slot b o e n hb hx
    obtain ⟨sl', e2⟩ := slot b _ (neL b o e) hb (neC b o e hx) e1 (I.base.free b o e n hx)
    exact ⟨sl', e2⟩
  · obtain ⟨o', e1⟩ := I.base.there b o e hx
    exact free b o' (neC b o e hx) e1 (I.base.free b o e n hx)
  · obtain ⟨o', e1⟩ := I.base.there b o e hx
    exact there b o' (neC b o e hx) e1
  · obtain ⟨m1, e1⟩ := I.base.tbls b ps e
    obtain ⟨m2, e2⟩ := tbls b _ e1
    exact ⟨m1 ++ m2, by rw [e2, Array.append_assoc]⟩
  · obtain ⟨m, hn, hl⟩ := I.loc
    refine ⟨m, ns m hn, fun i x v e1 e2 e3 => ?_⟩
    obtain ⟨u, r, l⟩ := hl i x v e1 e2 e3
    refine ⟨u, r, ?_⟩
    rcases l with l | ⟨k, c, e, z⟩
    · exact .inl l
    · exact .inr ⟨k, c, e, cellK x c e _ z⟩
  · obtain ⟨v, z⟩ := I.cell x c e
    exact ⟨v, cellK x c e v z⟩
  · obtain ⟨m, ⟨o, _, _, ho, _⟩, _⟩ := I.loc
    exact free _ o (fun z => (hch _ z).2.1 rfl) ho I.free
  · obtain ⟨v, o, ho, hd⟩ := I.cell x c e
    exact free c o (fun z => (hch c z).2.2.1 x c e rfl) ho (I.freeC x c e)
  · obtain ⟨e, n, ne, nf, d⟩ := I.pin p hp
    have nch : p.1 ∉ ch := fun z => (hch p.1 z).2.2.2 p hp rfl
    exact ⟨keep p.1 p.2 ne nf nch e n, free p.1 p.2 nch e n, ne, nf, d⟩
/-- .. where the frame's own object is kept too -/
theorem Inv.un {t' : Nat} (I : Inv X pins σ H s) (u : Un X.fs [] H H' s.heap h') (hok : HOk X.prog X.w H' h') : Inv X pins σ H' { s with heap := h', toks := t' } := by
  obtain ⟨m, ⟨o, es, ep, ho, r⟩, _⟩ := id I.loc
  obtain ⟨sl, hL⟩ := u.any ho I.free (by simp)
  exact I.step (g' := s.gens) (d' := s.drawn) (ch := []) (fun _ z => nomatch z) (fun b o _ hb _ e n => u.keep b o e n hb (by simp)) (fun b o _ hb _ e n => u.slot b o e n hb (by simp)) (fun b o _ e n => u.free b o e n (by simp)) (fun b o _ e => u.there b o e (by simp)) u.tups u.frzs u.tbls (fun m' hm => by
    obtain ⟨o', es', ep', ho', r'⟩ := hm
    rw [ho] at ho'; cases ho'
    exact ⟨_, es', ep', hL, r'⟩) hok I.bare
/-- behind a call (or a comprehension's block): the slots of this frame may have changed too, the records at ch may have turned -/
theorem Inv.call {g' : Array GenState} {t' : Nat} {d' : Drawn} {ch : List Addr} (I : Inv X pins σ H s) (u : Un (frs X.stack) ch H H' s.heap h') (hok : HOk X.prog X.w H' h') (hg : AllBare g')
    (hch : ∀ b ∈ ch, (b ∈ X.ex ∨ X.s₀.heap.objs.size ≤ b) ∧ b ≠ X.env.locals ∧ (∀ x c, X.env.cells.lookup x = some c → c ≠ b) ∧ ∀ p ∈ X.pn ++ pins, p.1 ≠ b) :
    Inv X pins σ H' { s with heap := h', gens := g', drawn := d', toks := t' } := by
  obtain ⟨m, ⟨o, es, ep, ho, r⟩, _⟩ := id I.loc
  obtain ⟨sl, hL⟩ := u.any ho I.free fun z => (hch _ z).2.1 rfl
  exact I.step (ch := ch) hch (fun b o hL hb hc e n => u.keep b o e n (fun z => (List.mem_cons.mp (I.stkSub b z)).elim hL hb) hc) (fun b o _ _ hc e n => u.any e n hc) (fun b o hc e n => u.free b o e n hc) (fun b o hc e => u.there b o e hc) u.tups u.frzs u.tbls (fun m' hm => by
    obtain ⟨o', es', ep', ho', r'⟩ := hm
    rw [ho] at ho'; cases ho'
    exact ⟨_, es', ep', hL, r'⟩) hok hg
/-- an untracked record of ours (an iterator) has turned -/
theorem Inv.turned {t' : Nat} {it : Addr} (I : Inv X pins σ H s) (k : ∀ b o, b ≠ it → s.heap.get? b = some o → h'.get? b = some o) (hn : H it = none) (hL : it ≠ X.env.locals)
    (h1 : it ∈ X.ex ∨ X.s₀.heap.objs.size ≤ it) (h2 : ∀ x c, X.env.cells.lookup x = some c → c ≠ it) (h3 : ∀ p ∈ X.pn ++ pins, p.1 ≠ it) : Inv X pins σ H { s with heap := h', toks := t' } := by
  have nit : ∀ b u, H b = some u → b ≠ it := fun b u e z => by rw [z, hn] at e; cases e
  refine I.step (g' := s.gens) (d' := s.drawn) (ch := [it]) (fun b hb => ?_) (fun b o _ _ hc e _ => k b o (fun z => hc (by simp [z])) e) (fun b o _ _ hc e _ => ⟨o.slots, k b o (fun z => hc (by simp [z])) e⟩) (fun _ _ _ _ n => n)
    (fun b o hc e => ⟨o, k b o (fun z => hc (by simp [z])) e⟩) (fun _ _ e => e) (fun _ _ _ e => e) (fun b ps e => ⟨#[], by rw [e]; simp⟩) (fun m hm => ?_) (fun b u e => ?_) I.bare
  · have e : b = it := by simpa using hb
    subst e
    exact ⟨h1, hL, h2, h3⟩
  · obtain ⟨o, es, ep, ho, r⟩ := hm
    exact ⟨o, es, ep, k _ o (Ne.symm hL) ho, r⟩
  · refine (I.hok b u e).stay (fun c v hc q => k c v ?_ q) (fun _ q => q) fun _ _ q => q
    rcases hc with z | z
    · rw [z]; exact nit b u e
    · exact nit c _ z
theorem Inv.tok (I : Inv X pins σ H s) (t : Nat) : Inv X pins σ H { s with toks := t } := I.un (h' := s.heap) (t' := t) Un.refl I.hok
/-- all objects kept -/
theorem Inv.kept {t' : Nat} (I : Inv X pins σ H s) (k : ∀ b u, s.heap.get? b = some u → h'.get? b = some u) : Inv X pins σ H { s with heap := h', toks := t' } := I.un (Un.kept k) (I.hok.kept k)
/-- a new object laid and tracked -/
theorem Inv.laid {a : Addr} {o : HO} {t' : Nat} (I : Inv X pins σ H s) (k : ∀ b u, s.heap.get? b = some u → h'.get? b = some u) (hp : s.heap.objs.size ≤ a) (new : ObjOk X.prog X.w (upd H a o) h' a o) :
    Inv X pins σ (upd H a o) { s with heap := h', toks := t' } := I.un (Un.laid k hp (I.hok.fresh hp)) (I.hok.laid k hp new)
/-- an object written -/
theorem Inv.write {x e : Addr} {o : HO} {t' : Nat} (I : Inv X pins σ H s) (mu : Mut (H x)) (he : e = x ∨ H e = some (.own x)) (k : ∀ b u, b ≠ e → s.heap.get? b = some u → h'.get? b = some u) (heo : ∃ u, h'.get? e = some u)
    (new : ObjOk X.prog X.w (upd H x o) h' x o) : Inv X pins σ (upd H x o) { s with heap := h', toks := t' } := I.un (Un.write mu he k heo) (I.hok.write mu he k heo new)
/-- forgetting slots, pins -/
theorem Inv.weak {σ' : List (Option V)} (I : Inv X pins σ H s) (hl : σ'.length = σ.length) (w : ∀ (i : Nat) v, σ'[i]? = some (some v) → σ[i]? = some (some v)) : Inv X pins σ' H s :=
  ⟨I.ok, I.os, I.bare, I.base, let ⟨m, hn, hl'⟩ := I.loc; ⟨m, hn, fun i x v e1 e2 e3 => hl' i x v e1 (w i v e2) e3⟩, I.cell, I.free, I.freeC, I.pin, I.hok, hl.trans I.len⟩
theorem Inv.pins_of {pins' : List (Addr × Obj)} (I : Inv X pins σ H s) (h : ∀ p ∈ pins', s.heap.get? p.1 = some p.2 ∧ H p.1 = none ∧ p.1 ≠ X.env.locals ∧ p.1 ∉ X.fs ∧ ∀ v, p.2.data ≠ .cell v) : Inv X pins' σ H s :=
  ⟨I.ok, I.os, I.bare, I.base, I.loc, I.cell, I.free, I.freeC, fun p hp => (List.mem_append.mp hp).elim (fun z => I.pin p (List.mem_append_left _ z)) (h p), I.hok, I.len⟩

theorem nodup_ix {N : List Str} (hN : N.Nodup) {i j : Nat} {x : Str} (a : N[i]? = some x) (b : N[j]? = some x) : i = j := by
  obtain ⟨h1, e1⟩ := List.getElem?_eq_some_iff.mp a
  obtain ⟨h2, e2⟩ := List.getElem?_eq_some_iff.mp b
  exact (List.getElem_inj hN).mp (e1.trans e2.symm)

/-- a name is stored; what changed -/
theorem store_ok2 {M : Model} {A : Around} {E : Value → Shared → Prop} {i : Nat} {x : Str} {v : V} {u : Value} {Q : Unit → Shared → Prop} (I : Inv X pins σ H s) (hN : X.N.Nodup) (hi : X.N[i]? = some x) (hx : Loc X.env.scope x) (r : RelV v u)
    (h : ∀ s', Inv X pins (σ.set i (some v)) H s' → (∃ a, Heap.SameBut a s.heap s'.heap ∧ (a = X.env.locals ∨ X.env.cells.lookup x = some a)) → Q () s') (hf : X.fn x = true ∨ X.env.scope.names.lookup x = some .local := by first | exact .inl rfl | exact .inr rfl | assumption) : wpAny M A (storeName X.env x u) Q E s := by
  obtain ⟨m, hn, hl⟩ := id I.loc
  have hcls : (X.env.scope.kind == .class || (X.env.scope.kind == .module && X.env.locals != X.env.globals)) = false := by rw [I.ok.kind]; rfl
  have hiσ : i < σ.length := by rw [I.len]; exact (List.getElem?_eq_some_iff.mp hi).1
  have cne := I.cne
  have tracked : ∀ {a : Addr} {h' : Heap}, (∃ o, s.heap.get? a = some o ∧ H a = none) → Heap.SameBut a s.heap h' → HOk X.prog X.w H h' := fun {a h'} ha hs b ob e => by
    obtain ⟨_, _, hfree⟩ := ha
    refine (I.hok b ob e).stay (fun c w' hc q => (hs.2 c ?_).trans q) (fun _ q => q) fun _ _ q => q
    rintro rfl
    rcases hc with rfl | hc
    · rw [hfree] at e; cases e
    · rw [hfree] at hc; cases hc
  rcases hx with hk | hk
  · refine wpAny_storeName_local hk hn (fun h' hn' hs => ?_) hcls
    obtain ⟨oL, _, _, hoL, _⟩ := id hn
    refine h _ ⟨I.ok, I.os, I.bare, ⟨fun b o e n hb hx => ?_, fun b o e n hb hx => ?_, I.base.free, fun b o e hx => ?_, I.base.tups, I.base.frzs, I.base.tbls⟩, ⟨_, hn', fun j y v' e1 e2 e3 => ?_⟩, fun y c e => ?_, I.free, I.freeC, fun p hp => ?_, tracked ⟨oL, hoL, I.free⟩ hs, by simpa using I.len⟩ ⟨_, hs, .inl rfl⟩
    · exact (hs.2 b (Nat.ne_of_lt (Nat.lt_of_lt_of_le (Heap.lt_size e) I.ok.above))).trans (I.base.keep b o e n hb hx)
    · obtain ⟨sl, e1⟩ := I.base.slot b o e n hb hx
      exact ⟨sl, (hs.2 b (Nat.ne_of_lt (Nat.lt_of_lt_of_le (Heap.lt_size e) I.ok.above))).trans e1⟩
    · obtain ⟨o', e1⟩ := I.base.there b o e hx
      exact ⟨o', (hs.2 b (Nat.ne_of_lt (Nat.lt_of_lt_of_le (Heap.lt_size e) I.ok.above))).trans e1⟩
    · by_cases hj : j = i
      · subst hj
        rw [hi] at e1; cases e1
        rw [List.getElem?_set_self hiσ] at e2
        cases e2
        exact ⟨u, r, .inl ⟨hk, by simp⟩⟩
      · rw [List.getElem?_set_ne (Ne.symm hj)] at e2
        obtain ⟨u', r', q⟩ := hl j y v' e1 e2 e3
        refine ⟨u', r', ?_⟩
        rcases q with ⟨k, e⟩ | ⟨k, c, e, z⟩
        · refine .inl ⟨k, ?_⟩
          have : y ≠ x := fun e => hj (nodup_ix hN e1 (e ▸ hi))
          simp [this, e]
        · exact .inr ⟨k, c, e, z.sameBut hs (cne y c e)⟩
    · obtain ⟨w', z⟩ := I.cell y c e
      exact ⟨w', z.sameBut hs (cne y c e)⟩
    · obtain ⟨e, n, ne, nf, d⟩ := I.pin p hp
      exact ⟨(hs.2 p.1 ne).trans e, n, ne, nf, d⟩
  · have hfn : X.fn x = true := by
      rcases hf with z | z
      · exact z
      · rw [z] at hk; cases hk
    obtain ⟨c, hc⟩ := I.ok.has x (.inl hk)
    obtain ⟨w', z⟩ := I.cell x c hc
    refine wpAny_storeName_cell I.ok.kind hk hc z (fun h' hc' hs => ?_)
    obtain ⟨oc, hoc, hocd⟩ := id z
    refine h { s with heap := h' } ⟨I.ok, I.os, I.bare, ⟨fun b o e n hb hx => ?_, fun b o e n hb hx => ?_, I.base.free, fun b o e hx => ?_, I.base.tups, I.base.frzs, I.base.tbls⟩, ⟨m, hn.sameBut hs (Ne.symm (cne x c hc)), fun j y v' e1 e2 e3 => ?_⟩, fun y c' e => ?_, I.free, I.freeC, fun p hp => ?_, tracked ⟨oc, hoc, I.freeC x c hc⟩ hs, by simpa using I.len⟩ ⟨c, hs, .inr hc⟩
    · exact (hs.2 b (Nat.ne_of_lt (Nat.lt_of_lt_of_le (Heap.lt_size e) (I.ok.cab x c hfn hc)))).trans (I.base.keep b o e n hb hx)
    · obtain ⟨sl, e1⟩ := I.base.slot b o e n hb hx
      exact ⟨sl, (hs.2 b (Nat.ne_of_lt (Nat.lt_of_lt_of_le (Heap.lt_size e) (I.ok.cab x c hfn hc)))).trans e1⟩
    · obtain ⟨o', e1⟩ := I.base.there b o e hx
      exact ⟨o', (hs.2 b (Nat.ne_of_lt (Nat.lt_of_lt_of_le (Heap.lt_size e) (I.ok.cab x c hfn hc)))).trans e1⟩
    · by_cases hj : j = i
      · subst hj
        rw [hi] at e1; cases e1
        rw [List.getElem?_set_self hiσ] at e2
        cases e2
        exact ⟨u, r, .inr ⟨.inl hk, c, hc, hc'⟩⟩
      · rw [List.getElem?_set_ne (Ne.symm hj)] at e2
        obtain ⟨u', r', q⟩ := hl j y v' e1 e2 e3
        refine ⟨u', r', ?_⟩
        rcases q with q | ⟨k, c', e, z'⟩
        · exact .inl q
        · refine .inr ⟨k, c', e, z'.sameBut hs ?_⟩
          rintro rfl
          exact hj (nodup_ix hN e1 (I.ok.inj _ _ _ e hc ▸ hi))
    · by_cases hcc : c' = c
      · subst hcc; exact ⟨_, hc'⟩
      · obtain ⟨w2, z2⟩ := I.cell y c' e
        exact ⟨w2, z2.sameBut hs hcc⟩
    · obtain ⟨e, n, ne, nf, d⟩ := I.pin p hp
      refine ⟨(hs.2 p.1 ?_).trans e, n, ne, nf, d⟩
      intro q
      rw [q, hoc] at e
      have q' : oc = p.2 := Option.some.inj e
      exact d w' (by rw [← q']; exact hocd)
theorem store_ok {M : Model} {A : Around} {E : Value → Shared → Prop} {i : Nat} {x : Str} {v : V} {u : Value} {Q : Unit → Shared → Prop} (I : Inv X pins σ H s) (hN : X.N.Nodup) (hi : X.N[i]? = some x) (hx : Loc X.env.scope x) (r : RelV v u)
    (h : ∀ s', Inv X pins (σ.set i (some v)) H s' → Q () s') (hf : X.fn x = true ∨ X.env.scope.names.lookup x = some .local := by first | exact .inl rfl | exact .inr rfl | assumption) : wpAny M A (storeName X.env x u) Q E s :=
  store_ok2 I hN hi hx r (fun s' I' _ => h s' I') hf
/-- behind a call or a block, the state as it is -/
theorem Inv.call' {s' : Shared} {ch : List Addr} (I : Inv X pins σ H s) (ho : s'.os = s.os) (u : Un (frs X.stack) ch H H' s.heap s'.heap) (hok : HOk X.prog X.w H' s'.heap) (hg : AllBare s'.gens)
    (hch : ∀ b ∈ ch, (b ∈ X.ex ∨ X.s₀.heap.objs.size ≤ b) ∧ b ≠ X.env.locals ∧ (∀ x c, X.env.cells.lookup x = some c → c ≠ b) ∧ ∀ p ∈ X.pn ++ pins, p.1 ≠ b) : Inv X pins σ H' s' := by
  obtain ⟨h', g', d', t', o'⟩ := s'
  have e : o' = s.os := ho
  subst e
  exact I.call (g' := g') (t' := t') (d' := d') u hok hg hch
end

/-! ### the judgements -/
/-- an exception: its class, its own dict's address (where it has one), the abstract heap behind it -/
abbrev XK := Value → Option Addr → Hp → Prop
abbrev St := List (Option V)
abbrev VK := V → Hp → Prop
/-- an expression's reading; a test's; an argument list's -/
abbrev TE := St → Hp → VK → Prop
abbrev TT := St → Hp → (Bool → Hp → Prop) → Prop
abbrev TA := St → Hp → (List V → Hp → Prop) → Prop
/-- what is wanted behind a statement -/
structure Ends where
  nx : St → Hp → Prop
  rt : VK
  bk : St → Hp → Prop := fun _ _ => False
  ct : St → Hp → Prop := fun _ _ => False
abbrev TS := Ends → St → Hp → Prop

def EP (X : Cx) (pins : List (Addr × Obj)) (σ : St) (Q : VK) (u : Value) (s' : Shared) : Prop := ∃ v H', Inv X pins σ H' s' ∧ RelV v u ∧ Q v H'
def TP (X : Cx) (pins : List (Addr × Obj)) (σ : St) (Q : Bool → Hp → Prop) (b : Bool) (s' : Shared) : Prop := ∃ H', Inv X pins σ H' s' ∧ Q b H'
def AP (X : Cx) (pins : List (Addr × Obj)) (σ : St) (Q : List V → Hp → Prop) (us : List Value) (s' : Shared) : Prop := ∃ vs H', Inv X pins σ H' s' ∧ Vals vs us ∧ Q vs H'
def SP (X : Cx) (pins : List (Addr × Obj)) (D : Ends) (f : Flow) (s' : Shared) : Prop :=
  match f with
  | .next => ∃ σ' H', Inv X pins σ' H' s' ∧ D.nx σ' H'
  | .brk => ∃ σ' H', Inv X pins σ' H' s' ∧ D.bk σ' H'
  | .cont => ∃ σ' H', Inv X pins σ' H' s' ∧ D.ct σ' H'
  | .ret u => ∃ v σ' H', Inv X pins σ' H' s' ∧ RelV v u ∧ D.rt v H'

def PE (X : Cx) (e : Expr) (t : TE) : Prop :=
  ∀ (pins : List (Addr × Obj)) (s : Shared) (σ : St) (H : Hp) (Q : VK), Inv X pins σ H s → t σ H Q → wpAny (model X.prog X.w) X.A (eval e X.env) (EP X pins σ Q) X.xe s
def PT (X : Cx) (e : Expr) (t : TT) : Prop :=
  ∀ (pins : List (Addr × Obj)) (s : Shared) (σ : St) (H : Hp) (Q : Bool → Hp → Prop), Inv X pins σ H s → t σ H Q → wpAny (model X.prog X.w) X.A (isTrue e X.env (eval e X.env)) (TP X pins σ Q) X.xe s
/-- a test whatever its 'whole' is (and, or) -/
def PW (X : Cx) (e : Expr) (t : TT) : Prop :=
  ∀ (whole : Sem Value) (pins : List (Addr × Obj)) (s : Shared) (σ : St) (H : Hp) (Q : Bool → Hp → Prop), Inv X pins σ H s → t σ H Q → wpAny (model X.prog X.w) X.A (isTrue e X.env whole) (TP X pins σ Q) X.xe s
theorem PW.pt {X : Cx} {e : Expr} {t : TT} (h : PW X e t) : PT X e t := h _
/-- an argument list (no star), from the left -/
def PA (X : Cx) (es : List Expr) (t : TA) : Prop :=
  ∀ (pos : Pos) (pins : List (Addr × Obj)) (s : Shared) (σ : St) (H : Hp) (Q : List V → Hp → Prop), Inv X pins σ H s → t σ H Q → wpAny (model X.prog X.w) X.A (spliced (backTo pos (starEach es X.env))) (AP X pins σ Q) X.xe s
def PS (X : Cx) (st : Stmt) (t : TS) : Prop :=
  ∀ (pins : List (Addr × Obj)) (s : Shared) (σ : St) (H : Hp) (D : Ends), Inv X pins σ H s → t D σ H → wpAny (model X.prog X.w) X.A (exec st X.env) (SP X pins D) X.xe s
def PSs (X : Cx) (st : List Stmt) (t : TS) : Prop :=
  ∀ (pins : List (Addr × Obj)) (s : Shared) (σ : St) (H : Hp) (D : Ends), Inv X pins σ H s → t D σ H → wpAny (model X.prog X.w) X.A (execs st X.env) (SP X pins D) X.xe s
/-- weaken the end -/
theorem thn {α : Type} {t : Sem α} {Q Q' : α → Shared → Prop} {M : Model} {A : Around} {E : Value → Shared → Prop} {s : Shared} (h : wpAny M A t Q E s) (hQ : ∀ a s, Q a s → Q' a s) : wpAny M A t Q' E s := wpAny_mono h hQ fun _ _ x => x
end L2

namespace L2
open PySem PySem.Spec PyProof.Rows
section
variable {X : Cx}

/-- two expressions in a row -/
theorem bin {a b : Expr} {ta tb : TE} (ha : PE X a ta) (hb : PE X b tb) {pins : List (Addr × Obj)} {s : Shared} {σ : St} {H : Hp} {R : V → V → Hp → Prop} (I : Inv X pins σ H s) (h : ta σ H fun x H1 => tb σ H1 fun y H2 => R x y H2)
    {α : Type} {Q : α → Shared → Prop} {f : Value → Value → Sem α}
    (hf : ∀ v u s2 x y H2, Inv X pins σ H2 s2 → RelV x v → RelV y u → R x y H2 → wpAny (model X.prog X.w) X.A (f v u) Q X.xe s2) :
    wpAny (model X.prog X.w) X.A (eval a X.env) (fun v s₁ => wpAny (model X.prog X.w) X.A (eval b X.env) (fun u s₂ => wpAny (model X.prog X.w) X.A (f v u) Q X.xe s₂) X.xe s₁) X.xe s := by
  refine thn (ha pins s σ H _ I h) fun v s1 ⟨x, H1, I1, r1, q1⟩ => ?_
  refine thn (hb pins s1 σ H1 _ I1 q1) fun u s2 ⟨y, H2, I2, r2, q2⟩ => ?_
  exact hf v u s2 x y H2 I2 r1 r2 q2

/-! ### names and constants -/
def tVar (i : Nat) : TE := fun σ H Q => ∃ v, σ[i]? = some (some v) ∧ Q v H
def tC (v : V) : TE := fun _ H Q => Q v H
theorem pe_var {i : Nat} {x : Str} {pos : Pos} (hN : X.N[i]? = some x) (hv : Vis X.env.scope x) (hd : (x == ("__debug__" : Str)) = false := by decide) (hcd : (x == ("__classdict__" : Str)) = false := by decide) : PE X (.Name x pos) (tVar i) := by
  intro pins s σ H Q I h
  obtain ⟨v, e, h⟩ := h
  obtain ⟨m, hn, hl⟩ := I.loc
  obtain ⟨u, r, l⟩ := hl i x v hN e hv
  have fin : EP X pins σ Q u s := ⟨v, H, I, r, h⟩
  rcases l with ⟨hk, hm⟩ | ⟨hk, c, hc, hcell⟩
  · exact wpAny_Name (wpAny_loadName_local I.ok.kind hk hn hm fin) hd
  · rcases hk with hk | hk
    · exact wpAny_Name (wpAny_loadName_cell I.ok.kind hk hc hcell fin) hd
    · exact wpAny_Name (wpAny_loadName_free I.ok.kind hk hc hcell fin hcd) hd
theorem pe_int {i j pos} : PE X (.Constant (.int i) j pos) (tC (.int i)) := fun _ _ _ H _ I h => wpAny_Constant_int ⟨.int i, H, I.tok _, ⟨_, rfl⟩, h⟩
theorem pe_bl {b j pos} : PE X (.Constant (.bool b) j pos) (tC (.bl b)) := fun _ _ _ H _ I h => Constant_bool ⟨.bl b, H, I, rfl, h⟩
theorem pe_non {j pos} : PE X (.Constant .none j pos) (tC .non) := fun _ _ _ H _ I h => Constant_none ⟨.non, H, I, rfl, h⟩
theorem pe_str {x j pos} : PE X (.Constant (.str x) j pos) (tC (.str x)) := fun _ _ _ H _ I h => Calls.Constant_str ⟨.str x, H, I.tok _, ⟨_, rfl⟩, h⟩

/-- a global name of the def -/
def Gl (X : Cx) (x : Str) : Prop := X.env.kindOf x = some .globalImplicit
theorem ld_glob {E : Value → Shared → Prop} {pins : List (Addr × Obj)} {s : Shared} {σ : St} {H : Hp} {x : Str} {u : Value} {pos : Pos} {Q : Value → Shared → Prop} (I : Inv X pins σ H s) (hg : Gl X x) (hm : X.mg x = some u) (h : Q u s)
    (hd : (x == ("__debug__" : Str)) = false := by decide) : wpAny (model X.prog X.w) X.A (eval (.Name x pos) X.env) Q E s :=
  Calls.Name_function_global I.ok.kind hg (Calls.loadGlobal_global (by rw [I.ok.glob]; exact I.mod.glob.keeps I.bk) hm h) hd
theorem ld_blt {E : Value → Shared → Prop} {pins : List (Addr × Obj)} {s : Shared} {σ : St} {H : Hp} {x : Str} {u : Value} {pos : Pos} {Q : Value → Shared → Prop} (I : Inv X pins σ H s) (hg : Gl X x) (hm : X.mg x = none) (hv : bootBuiltins x = some u) (h : Q u s)
    (hn : x ≠ "__name__" := by decide) (hd : (x == ("__debug__" : Str)) = false := by decide) : wpAny (model X.prog X.w) X.A (eval (.Name x pos) X.env) Q E s := by
  obtain ⟨mb, h1, h2⟩ := I.mod.blt
  exact Calls.Name_function_global I.ok.kind hg (Calls.loadGlobal_builtin (by rw [I.ok.glob]; exact I.mod.glob.keeps I.bk) hm (by rw [I.ok.blt]; exact h1.keeps I.bk) ((h2 x hn).trans hv) h) hd
/-- a module's constant, a class, a function, as a value -/
theorem pe_glob {x : Str} {v : V} {u : Value} {pos : Pos} (hg : Gl X x) (hm : X.mg x = some u) (r : RelV v u) (hd : (x == ("__debug__" : Str)) = false := by decide) : PE X (.Name x pos) (tC v) :=
  fun _ _ _ H _ I h => ld_glob I hg hm ⟨v, H, I, r, h⟩ hd
theorem pe_bltn {x : Str} {v : V} {u : Value} {pos : Pos} (hg : Gl X x) (hm : X.mg x = none) (hv : bootBuiltins x = some u) (r : RelV v u) (hn : x ≠ "__name__" := by decide) (hd : (x == ("__debug__" : Str)) = false := by decide) : PE X (.Name x pos) (tC v) :=
  fun _ _ _ H _ I h => ld_blt I hg hm hv ⟨v, H, I, r, h⟩ hn hd

/-! ### arithmetic -/
/-- two ints -/
def t2I (ta tb : TE) (k : Int → Int → Hp → Prop) : St → Hp → Prop := fun σ H => ta σ H fun x H1 => tb σ H1 fun y H2 => ∃ i j, x = .int i ∧ y = .int j ∧ k i j H2
def tAdd (ta tb : TE) : TE := fun σ H Q => t2I ta tb (fun i j H2 => Q (.int (i + j)) H2) σ H
def tSub (ta tb : TE) : TE := fun σ H Q => t2I ta tb (fun i j H2 => Q (.int (i - j)) H2) σ H
/-- the left factor below 2^64 -/
def tMul (ta tb : TE) : TE := fun σ H Q => t2I ta tb (fun i j H2 => (-(2 ^ 64) < i ∧ i < 2 ^ 64) ∧ Q (.int (i * j)) H2) σ H
variable {a b : Expr} {ta tb : TE} {pos : Pos}
theorem pe_add (ha : PE X a ta) (hb : PE X b tb) : PE X (.BinOp a .Add b pos) (tAdd ta tb) := by
  intro pins s σ H Q I h
  refine wpAny_BinOp (bin ha hb I h fun v u s2 x y H2 I2 rx ry q => ?_)
  obtain ⟨i, j, rfl, rfl, q⟩ := q
  obtain ⟨t, rfl⟩ := rx
  obtain ⟨t', rfl⟩ := ry
  exact add_int ⟨.int _, H2, I2.tok _, ⟨_, rfl⟩, q⟩
theorem pe_sub (ha : PE X a ta) (hb : PE X b tb) : PE X (.BinOp a .Sub b pos) (tSub ta tb) := by
  intro pins s σ H Q I h
  refine wpAny_BinOp (bin ha hb I h fun v u s2 x y H2 I2 rx ry q => ?_)
  obtain ⟨i, j, rfl, rfl, q⟩ := q
  obtain ⟨t, rfl⟩ := rx
  obtain ⟨t', rfl⟩ := ry
  exact sub_int ⟨.int _, H2, I2.tok _, ⟨_, rfl⟩, q⟩
theorem pe_mul (ha : PE X a ta) (hb : PE X b tb) : PE X (.BinOp a .Mult b pos) (tMul ta tb) := by
  intro pins s σ H Q I h
  refine wpAny_BinOp (bin ha hb I h fun v u s2 x y H2 I2 rx ry q => ?_)
  obtain ⟨i, j, rfl, rfl, ⟨q1, q2⟩, q⟩ := q
  obtain ⟨t, rfl⟩ := rx
  obtain ⟨t', rfl⟩ := ry
  exact mul_int ⟨.int _, H2, I2.tok _, ⟨_, rfl⟩, q⟩ (.of_left (intBits_le_64 q1 q2))

/-! ### comparisons -/
def PC (X : Cx) (op : CmpOp) (a b : Expr) (t : TE) : Prop :=
  ∀ (pins : List (Addr × Obj)) (s : Shared) (σ : St) (H : Hp) (Q : VK), Inv X pins σ H s → t σ H Q →
    wpAny (model X.prog X.w) X.A (eval a X.env) (fun v s₁ => wpAny (model X.prog X.w) X.A (eval b X.env) (fun u s₂ => wpAny (model X.prog X.w) X.A (compareOp op v u) (EP X pins σ Q) X.xe s₂) X.xe s₁) X.xe s
theorem nobehind (b : Expr) {op : CmpOp} (h : op ≠ .In) (h2 : op ≠ .NotIn) : behindInMarks op b = false := by
  have e1 : (op == CmpOp.In) = false := by cases op <;> first | rfl | exact absurd rfl h
  have e2 : (op == CmpOp.NotIn) = false := by cases op <;> first | rfl | exact absurd rfl h2
  cases b <;> simp [behindInMarks, e1, e2]
def tCmp (p : Int → Int → Bool) (ta tb : TE) : TE := fun σ H Q => t2I ta tb (fun i j H2 => Q (.bl (p i j)) H2) σ H
abbrev tLt : TE → TE → TE := tCmp fun i j => decide (i < j)
abbrev tLe : TE → TE → TE := tCmp fun i j => decide (i ≤ j)
abbrev tGt : TE → TE → TE := tCmp fun i j => decide (j < i)
abbrev tGe : TE → TE → TE := tCmp fun i j => decide (j ≤ i)
abbrev tEqI : TE → TE → TE := tCmp fun i j => decide (i = j)
abbrev tNeI : TE → TE → TE := tCmp fun i j => !decide (i = j)
/-- a comparison of two ints, by its rule -/
theorem pc_int {op : CmpOp} {p : Int → Int → Bool} (ha : PE X a ta) (hb : PE X b tb)
    (rule : ∀ (i j : Int) (t u : Tok) (Q : Value → Shared → Prop) (s : Shared), Q (.bool (p i j)) s → wpAny (model X.prog X.w) X.A (compareOp op (.int i t) (.int j u)) Q X.xe s) : PC X op a b (tCmp p ta tb) := by
  intro pins s σ H Q I h
  refine bin ha hb I h fun v u s2 x y H2 I2 rx ry q => ?_
  obtain ⟨i, j, rfl, rfl, q⟩ := q
  obtain ⟨t, rfl⟩ := rx
  obtain ⟨t', rfl⟩ := ry
  exact rule i j t t' _ s2 ⟨.bl _, H2, I2, rfl, q⟩
theorem pc_lt (ha : PE X a ta) (hb : PE X b tb) : PC X .Lt a b (tLt ta tb) := pc_int ha hb fun _ _ _ _ _ _ h => lt_int h
theorem pc_le (ha : PE X a ta) (hb : PE X b tb) : PC X .LtE a b (tLe ta tb) := pc_int ha hb fun _ _ _ _ _ _ h => le_int h
theorem pc_gt (ha : PE X a ta) (hb : PE X b tb) : PC X .Gt a b (tGt ta tb) := pc_int ha hb fun _ _ _ _ _ _ h => gt_int h
theorem pc_ge (ha : PE X a ta) (hb : PE X b tb) : PC X .GtE a b (tGe ta tb) := pc_int ha hb fun _ _ _ _ _ _ h => ge_int h
theorem pc_eqI (ha : PE X a ta) (hb : PE X b tb) : PC X .Eq a b (tEqI ta tb) := pc_int ha hb fun _ _ _ _ _ _ h => eq_int (by rw [Bool.beq_eq_decide_eq]; exact h)
theorem pc_neI (ha : PE X a ta) (hb : PE X b tb) : PC X .NotEq a b (tNeI ta tb) := pc_int ha hb fun _ _ _ _ _ _ h => ne_int (by rw [bne, Bool.beq_eq_decide_eq]; exact h)
/-- is None -/
def tIsN (ta : TE) : TE := fun σ H Q => ta σ H fun x H1 => Q (.bl (decide (x = .non))) H1
def tNotN (ta : TE) : TE := fun σ H Q => ta σ H fun x H1 => Q (.bl (!decide (x = .non))) H1
theorem RelV.none_iff {x : V} {v : Value} (r : RelV x v) : (v == Value.none) = decide (x = .non) := by
  cases x with
  | non => cases r; rfl
  | bl _ => cases r; rfl
  | int _ => obtain ⟨t, rfl⟩ := r; rfl
  | str _ => obtain ⟨t, rfl⟩ := r; rfl
  | byt _ => obtain ⟨t, rfl⟩ := r; rfl
  | flt _ => obtain ⟨t, rfl⟩ := r; rfl
  | ref _ => cases r; rfl
  | ty _ => cases r; rfl
theorem pc_isN {j pos'} (ha : PE X a ta) : PC X .Is a (.Constant .none j pos') (tIsN ta) := by
  intro pins s σ H Q I h
  refine thn (ha pins s σ H _ I h) fun v s1 ⟨x, H1, I1, r1, q1⟩ => ?_
  exact Constant_none (is_none_gen ⟨.bl _, H1, I1, by rw [r1.none_iff]; rfl, q1⟩)
theorem pc_notN {j pos'} (ha : PE X a ta) : PC X .IsNot a (.Constant .none j pos') (tNotN ta) := by
  intro pins s σ H Q I h
  refine thn (ha pins s σ H _ I h) fun v s1 ⟨x, H1, I1, r1, q1⟩ => ?_
  exact Constant_none (isnot_none_gen ⟨.bl _, H1, I1, by rw [r1.none_iff]; rfl, q1⟩)
/-- a comparison as a value, as a test -/
def tB (t : TE) : TT := fun σ H Q => t σ H fun x H1 => ∃ c, x = .bl c ∧ Q c H1
theorem pe_cmp {op : CmpOp} {t : TE} (h : PC X op a b t) (h1 : behindInMarks op b = false := by first | exact nobehind _ (by decide) (by decide) | rfl) : PE X (.Compare a [op] [b] pos) t := fun pins s σ H Q I hw => wpAny_Compare1 (h pins s σ H Q I hw) h1
theorem pt_cmp {op : CmpOp} {t : TE} (h : PC X op a b t) (h1 : behindInMarks op b = false := by first | exact nobehind _ (by decide) (by decide) | rfl) : PT X (.Compare a [op] [b] pos) (tB t) := by
  intro pins s σ H Q I hw
  refine wpAny_isTrue_Compare1 (thn (h pins s σ H _ I hw) fun v s1 h1 => thn h1 fun u s2 h2 => thn h2 fun c s3 ⟨x, H1, I1, r1, q1⟩ => ?_) h1
  obtain ⟨d, rfl, q⟩ := q1
  cases r1
  exact wpAny_truthy_bool ⟨H1, I1, q⟩
/-- an expression whose value is a bool, as a test -/
theorem pt_val {e : Expr} {t : TE} (h : PE X e t) (he : ∀ whole, isTrue e X.env whole = (do let v ← whole; standAt e.pos; holding [v] (truthy v)) := by intro _; rfl) : PT X e (tB t) := by
  intro pins s σ H Q I hw
  refine isTrue_plain (thn (h pins s σ H _ I hw) fun v s1 ⟨x, H1, I1, r1, q1⟩ => ?_) (he _)
  obtain ⟨d, rfl, q⟩ := q1
  cases r1
  exact wpAny_truthy_bool ⟨H1, I1, q⟩

/-! ### and, or, not -/
variable {tA tB' : TT} {rest : List Expr}
def tAnd (t u : TT) : TT := fun σ H Q => t σ H fun c H1 => if c = true then u σ H1 Q else Q false H1
def tOr (t u : TT) : TT := fun σ H Q => t σ H fun c H1 => if c = true then Q true H1 else u σ H1 Q
def tNot (t : TT) : TT := fun σ H Q => t σ H fun c H1 => Q (!c) H1
theorem pw_and1 (ha : PT X a tA) : PW X (.BoolOp .And [a] pos) tA := by
  intro wh pins s σ H Q I h
  refine isTrue_and (thn (ha pins s σ H Q I h) fun c s1 e => ?_)
  cases c with
  | true => exact isTrue_and_nil e
  | false => exact e
theorem pw_or1 (ha : PT X a tA) : PW X (.BoolOp .Or [a] pos) tA := by
  intro wh pins s σ H Q I h
  refine isTrue_or (thn (ha pins s σ H Q I h) fun c s1 e => ?_)
  cases c with
  | false => exact isTrue_or_nil e
  | true => exact e
theorem pw_and (ha : PT X a tA) (hb : PW X (.BoolOp .And (b :: rest) pos) tB') : PW X (.BoolOp .And (a :: b :: rest) pos) (tAnd tA tB') := by
  intro wh pins s σ H Q I h
  refine isTrue_and (thn (ha pins s σ H _ I h) fun c s1 ⟨H1, I1, q1⟩ => ?_)
  cases c with
  | true => exact hb wh pins s1 σ H1 Q I1 q1
  | false => exact ⟨H1, I1, q1⟩
theorem pw_or (ha : PT X a tA) (hb : PW X (.BoolOp .Or (b :: rest) pos) tB') : PW X (.BoolOp .Or (a :: b :: rest) pos) (tOr tA tB') := by
  intro wh pins s σ H Q I h
  refine isTrue_or (thn (ha pins s σ H _ I h) fun c s1 ⟨H1, I1, q1⟩ => ?_)
  cases c with
  | true => exact ⟨H1, I1, q1⟩
  | false => exact hb wh pins s1 σ H1 Q I1 q1
theorem pt_not (ha : PT X a tA) : PT X (.UnaryOp .Not a pos) (tNot tA) := by
  intro pins s σ H Q I h
  exact isTrue_not (ha pins s σ H (fun c H1 => Q (!c) H1) I h)
/-- .. as values (bools) -/
def tAndV (ta tb : TE) : TE := fun σ H Q => ta σ H fun x H1 => ∃ c, x = .bl c ∧ if c = true then tb σ H1 Q else Q (.bl false) H1
def tOrV (ta tb : TE) : TE := fun σ H Q => ta σ H fun x H1 => ∃ c, x = .bl c ∧ if c = true then Q (.bl true) H1 else tb σ H1 Q
def tNotV (ta : TE) : TE := fun σ H Q => ta σ H fun x H1 => ∃ c, x = .bl c ∧ Q (.bl (!c)) H1
theorem pe_one {op} {t : TE} (h : PE X a t) : PE X (.BoolOp op [a] pos) t := fun pins s σ H Q I hw => BoolOp_one (h pins s σ H Q I hw)
theorem pe_and (ha : PE X a ta) (hb : PE X (.BoolOp .And (b :: rest) pos) tb) : PE X (.BoolOp .And (a :: b :: rest) pos) (tAndV ta tb) := by
  intro pins s σ H Q I h
  refine BoolOp_and (thn (ha pins s σ H _ I h) fun v s1 ⟨x, H1, I1, r1, q1⟩ => ?_)
  obtain ⟨c, rfl, q1⟩ := q1
  cases r1
  refine wpAny_truthy_bool ?_
  cases c with
  | true => exact hb pins s1 σ H1 Q I1 q1
  | false => exact ⟨.bl false, H1, I1, rfl, q1⟩
theorem pe_or (ha : PE X a ta) (hb : PE X (.BoolOp .Or (b :: rest) pos) tb) : PE X (.BoolOp .Or (a :: b :: rest) pos) (tOrV ta tb) := by
  intro pins s σ H Q I h
  refine BoolOp_or (thn (ha pins s σ H _ I h) fun v s1 ⟨x, H1, I1, r1, q1⟩ => ?_)
  obtain ⟨c, rfl, q1⟩ := q1
  cases r1
  refine wpAny_truthy_bool ?_
  cases c with
  | false => exact hb pins s1 σ H1 Q I1 q1
  | true => exact ⟨.bl true, H1, I1, rfl, q1⟩
theorem pe_not (ha : PE X a ta) : PE X (.UnaryOp .Not a pos) (tNotV ta) := by
  intro pins s σ H Q I h
  refine UnaryOp_ (thn (ha pins s σ H _ I h) fun v s1 ⟨x, H1, I1, r1, q1⟩ => ?_)
  obtain ⟨c, rfl, q1⟩ := q1
  cases r1
  exact not_of (wpAny_truthy_bool ⟨.bl (!c), H1, I1, rfl, q1⟩)
/-- a if t else b -/
def tIf (t : TT) (ta tb : TE) : TE := fun σ H Q => t σ H fun c H1 => if c = true then ta σ H1 Q else tb σ H1 Q
theorem pe_ifExp {c : Expr} (hc : PT X c tA) (ha : PE X a ta) (hb : PE X b tb) : PE X (.IfExp c a b pos) (tIf tA ta tb) := by
  intro pins s σ H Q I h
  refine wpAny_IfExp (thn (hc pins s σ H _ I h) fun d s1 ⟨H1, I1, q1⟩ => ?_)
  cases d with
  | true => exact ha pins s1 σ H1 Q I1 q1
  | false => exact hb pins s1 σ H1 Q I1 q1
end
end L2

namespace L2
open PySem PySem.Spec PyProof.Rows

/-! ### a list, a tuple that is read: tracked, frozen, or an object of the module -/
def SqL (K : PySem.W.Frag) (H : Hp) (a : Addr) (xs : List V) : Prop :=
  Rd H a (.lst xs) ∨
    ∃ (o : Obj) (its : Array Value) (n : Nat), K.lookup a = some o ∧ o.cls = .type "list" ∧ o.dict = none ∧ o.data = .seq its n ∧ its.size ≤ sizeLine ∧ Vals xs its.toList
def SqT (K : PySem.W.Frag) (H : Hp) (a : Addr) (xs : List V) : Prop :=
  Rd H a (.tup xs) ∨
    ∃ (o : Obj) (its : Array Value) (n : Nat), K.lookup a = some o ∧ o.cls = .type "tuple" ∧ o.data = .seq its n ∧ its.size ≤ sizeLine ∧ Vals xs its.toList
def absV : Value → Option V
  | .none => some .non
  | .bool b => some (.bl b)
  | .int i _ => some (.int i)
  | .str x _ => some (.str x)
  | .bytes b _ => some (.byt b)
  | .float b _ => some (.flt b)
  | .ref a => some (.ref a)
  | .type n => some (.ty n)
  | _ => none
theorem RelV.abs {x : V} {u : Value} (r : RelV x u) : absV u = some x := by
  cases x with
  | non => cases r; rfl
  | bl _ => cases r; rfl
  | int _ => obtain ⟨t, rfl⟩ := r; rfl
  | str _ => obtain ⟨t, rfl⟩ := r; rfl
  | byt _ => obtain ⟨t, rfl⟩ := r; rfl
  | flt _ => obtain ⟨t, rfl⟩ := r; rfl
  | ref _ => cases r; rfl
  | ty _ => cases r; rfl
theorem RelV.inj {x y : V} {u : Value} (r : RelV x u) (q : RelV y u) : x = y := Option.some.inj (r.abs.symm.trans q.abs)
theorem Vals.inj : ∀ {xs ys : List V} {us : List Value}, Vals xs us → Vals ys us → xs = ys
  | _, _, _, .nil, .nil => rfl
  | _, _, _, .cons r t, .cons r' t' => by rw [r.inj r', Vals.inj t t']
section
variable {X : Cx} {pins : List (Addr × Obj)} {σ : St} {H : Hp} {s : Shared} {a : Addr} {xs ys : List V}
theorem SqL.of {K : PySem.W.Frag} (h : H a = some (.lst xs)) : SqL K H a xs := .inl (.inl h)
theorem SqT.of {K : PySem.W.Frag} (h : H a = some (.tup xs)) : SqT K H a xs := .inl (.inl h)
theorem Inv.list (I : Inv X pins σ H s) (h : SqL X.K H a xs) : ∃ its : List Value, Vals xs its ∧ PlainL s.heap a its.toArray ∧ xs.length ≤ sizeLine := by
  rcases h with h | ⟨o, its, n, hk, hc, hd, hs, hz, r⟩
  · obtain ⟨z, its, n, r, e⟩ := h.ok I.hok
    exact ⟨its, r, ⟨_, n, e, rfl, rfl, rfl⟩, z⟩
  · refine ⟨its.toList, r, ⟨o, n, I.kIn a o hk, hc, hd, by simpa using hs⟩, ?_⟩
    have e := r.length
    simp only [Array.length_toList] at e
    omega
theorem Inv.tuple (I : Inv X pins σ H s) (h : SqT X.K H a xs) : ∃ its : List Value, Vals xs its ∧ IsTup s.heap a its.toArray ∧ xs.length ≤ sizeLine := by
  rcases h with h | ⟨o, its, n, hk, hc, hs, hz, r⟩
  · obtain ⟨z, its, r, p⟩ := h.ok I.hok
    exact ⟨its, r, p, z⟩
  · refine ⟨its.toList, r, ⟨o, I.kIn a o hk, hc, n, by simpa using hs⟩, ?_⟩
    have e := r.length
    simp only [Array.length_toList] at e
    omega
theorem Inv.list_inj (I : Inv X pins σ H s) (h : SqL X.K H a xs) (h' : SqL X.K H a ys) : xs = ys := by
  obtain ⟨its, r, ⟨o, n, e, _, _, d⟩, _⟩ := I.list h
  obtain ⟨its', r', ⟨o', n', e', _, _, d'⟩, _⟩ := I.list h'
  rw [e] at e'; cases e'
  rw [d] at d'
  injection d' with d1 _
  have : its = its' := by simpa using congrArg Array.toList d1
  subst this
  exact r.inj r'
theorem Inv.tuple_inj (I : Inv X pins σ H s) (h : SqT X.K H a xs) (h' : SqT X.K H a ys) : xs = ys := by
  obtain ⟨its, r, ⟨o, e, _, n, d⟩, _⟩ := I.tuple h
  obtain ⟨its', r', ⟨o', e', _, n', d'⟩, _⟩ := I.tuple h'
  rw [e] at e'; cases e'
  rw [d] at d'
  injection d' with d1 _
  have : its = its' := by simpa using congrArg Array.toList d1
  subst this
  exact r.inj r'
end

/-! ### another wish about exceptions -/
abbrev Cx.wish (X : Cx) (E : Value → Shared → Prop) : Cx := { X with xe := E }
/-- no exception leaves -/
abbrev Cx.nox (X : Cx) : Cx := X.wish fun _ _ => False
theorem Cx.Ok.wish {X : Cx} (ok : X.Ok) (E : Value → Shared → Prop) : (X.wish E).Ok :=
  ⟨ok.mod, ok.kind, ok.glob, ok.blt, ok.above, ok.inj, ok.has, ok.cab, ok.hd, ok.frames, ok.stk, ok.exf, ok.bs, ok.bsz, ok.noex, ok.exfs, ok.funs, ok.frf⟩
theorem Cx.Ok.unwish {X : Cx} {E : Value → Shared → Prop} (ok : (X.wish E).Ok) : X.Ok :=
  ⟨ok.mod, ok.kind, ok.glob, ok.blt, ok.above, ok.inj, ok.has, ok.cab, ok.hd, ok.frames, ok.stk, ok.exf, ok.bs, ok.bsz, ok.noex, ok.exfs, ok.funs, ok.frf⟩
section
variable {X : Cx} {pins : List (Addr × Obj)} {σ : St} {H : Hp} {s : Shared} {E : Value → Shared → Prop}
theorem Inv.wish (I : Inv X pins σ H s) (E : Value → Shared → Prop) : Inv (X.wish E) pins σ H s := ⟨I.ok.wish E, I.os, I.bare, I.base, I.loc, I.cell, I.free, I.freeC, I.pin, I.hok, I.len⟩
theorem Inv.unwish (I : Inv (X.wish E) pins σ H s) : Inv X pins σ H s := ⟨I.ok.unwish, I.os, I.bare, I.base, I.loc, I.cell, I.free, I.freeC, I.pin, I.hok, I.len⟩
theorem SP.unwish {D : Ends} {f : Flow} {s' : Shared} (h : SP (X.wish E) pins D f s') : SP X pins D f s' := by
  cases f with
  | next => obtain ⟨σ', H', I, q⟩ := h; exact ⟨σ', H', I.unwish, q⟩
  | brk => obtain ⟨σ', H', I, q⟩ := h; exact ⟨σ', H', I.unwish, q⟩
  | cont => obtain ⟨σ', H', I, q⟩ := h; exact ⟨σ', H', I.unwish, q⟩
  | ret u => obtain ⟨v, σ', H', I, r, q⟩ := h; exact ⟨v, σ', H', I.unwish, r, q⟩
theorem PE.nox {e : Expr} {t : TE} (h : PE X.nox e t) : PE X e t := fun pins s σ H Q I hw =>
  wpAny_mono (h pins s σ H Q (I.wish _) hw) (fun _ _ ⟨v, H', I', r, q⟩ => ⟨v, H', I'.unwish, r, q⟩) fun _ _ z => False.elim z
theorem PT.nox {e : Expr} {t : TT} (h : PT X.nox e t) : PT X e t := fun pins s σ H Q I hw =>
  wpAny_mono (h pins s σ H Q (I.wish _) hw) (fun _ _ ⟨H', I', q⟩ => ⟨H', I'.unwish, q⟩) fun _ _ z => False.elim z
theorem PSs.nox {st : List Stmt} {t : TS} (h : PSs X.nox st t) : PSs X st t := fun pins s σ H D I hw =>
  wpAny_mono (h pins s σ H D (I.wish _) hw) (fun _ _ q => q.unwish) fun _ _ z => False.elim z
end

/-! ### blocks and small statements -/
section
variable {X : Cx} {st : Stmt} {rest : List Stmt} {t u : TS} {e : Expr} {te : TE} {pos : Pos}
def tNext : TS := fun D σ H => D.nx σ H
def tSeq (t u : TS) : TS := fun D σ H => t { D with nx := u D } σ H
theorem pss_nil : PSs X [] tNext := fun _ _ σ H _ I h => wpAny_execs_nil ⟨σ, H, I, h⟩
theorem pss_cons (h1 : PS X st t) (h2 : PSs X rest u) : PSs X (st :: rest) (tSeq t u) := by
  intro pins s σ H D I h
  refine wpAny_execs_cons (thn (h1 pins s σ H { D with nx := u D } I h) fun f s1 q => ?_)
  cases f with
  | next =>
    obtain ⟨σ', H', I', q⟩ := q
    exact h2 pins s1 σ' H' D I' q
  | ret v => exact q
  | brk => exact q
  | cont => exact q
theorem pss_one (h1 : PS X st t) : PSs X [st] t := by
  intro pins s σ H D I h
  refine wpAny_execs_cons (thn (h1 pins s σ H D I h) fun f s1 q => ?_)
  cases f with
  | next => exact wpAny_execs_nil q
  | ret v => exact q
  | brk => exact q
  | cont => exact q
def tBreak : TS := fun D σ H => D.bk σ H
def tCont : TS := fun D σ H => D.ct σ H
theorem ps_pass : PS X (.Pass pos) tNext := fun _ _ σ H _ I h => wpAny_Pass ⟨σ, H, I, h⟩
theorem ps_break : PS X (.Break pos) tBreak := fun _ _ σ H _ I h => wpAny_Break ⟨σ, H, I, h⟩
theorem ps_continue : PS X (.Continue pos) tCont := fun _ _ σ H _ I h => wpAny_Continue ⟨σ, H, I, h⟩
/-- in a def's body nothing is shown -/
theorem Inv.quiet {pins : List (Addr × Obj)} {σ : St} {H : Hp} {s : Shared} (I : Inv X pins σ H s) : interactive X.env = false := by simp [interactive, I.ok.kind]
/-- a docstring -/
theorem ps_doc {x j pos pos'} : PS X (.Expr (.Constant (.str x) j pos) pos') tNext := fun _ s σ H _ I h => wpAny_Expr (Calls.Constant_str (show SP X _ _ .next { s with toks := s.toks + 1 } from ⟨σ, H, I.tok _, h⟩)) I.quiet
/-- an expression whose value is dropped -/
def tDrop (te : TE) : TS := fun D σ H => te σ H fun _ H1 => D.nx σ H1
theorem ps_expr (he : PE X e te) (hs : swapsWith e none pos.line X.env = pure false := by rfl) : PS X (.Expr e pos) (tDrop te) := by
  intro pins s σ H D I h
  exact wpAny_Expr_any (thn (he pins s σ H _ I h) fun v s1 ⟨x, H1, I1, r1, q1⟩ => ⟨σ, H1, I1, q1⟩) I.quiet hs
def tRet (te : TE) : TS := fun D σ H => te σ H D.rt
theorem ps_ret (he : PE X e te) : PS X (.Return (some e) pos) (tRet te) := by
  intro pins s σ H D I h
  exact wpAny_Return_some (thn (he pins s σ H _ I h) fun v s1 ⟨x, H1, I1, r1, q1⟩ => ⟨x, σ, H1, I1, r1, q1⟩)
def tRetN : TS := fun D _ H => D.rt .non H
theorem ps_retN : PS X (.Return none pos) tRetN := fun _ _ σ H _ I h => wpAny_Return_none ⟨.non, σ, H, I, rfl, h⟩
def tIfS (c : TT) (t u : TS) : TS := fun D σ H => c σ H fun b H1 => if b = true then t D σ H1 else u D σ H1
theorem ps_if {c : Expr} {a b : List Stmt} {tc : TT} (hc : PT X c tc) (ha : PSs X a t) (hb : PSs X b u) : PS X (.If c a b pos) (tIfS tc t u) := by
  intro pins s σ H D I h
  refine wpAny_If (thn (hc pins s σ H _ I h) fun d s1 ⟨H1, I1, q1⟩ => ?_)
  cases d with
  | true => exact ha pins s1 σ H1 D I1 q1
  | false => exact hb pins s1 σ H1 D I1 q1
/-- code that the proof never comes to -/
def tNever : TS := fun _ _ _ => False
theorem ps_never : PS X st tNever := fun _ _ _ _ _ _ h => h.elim
theorem pss_never {sts : List Stmt} : PSs X sts tNever := fun _ _ _ _ _ _ h => h.elim
end

/-! ### targets -/
abbrev TG := V → St → Hp → (St → Hp → Prop) → Prop
abbrev TGs := List V → St → Hp → (St → Hp → Prop) → Prop
def PG (X : Cx) (target : Expr) (t : TG) : Prop :=
  ∀ (pins : List (Addr × Obj)) (s : Shared) (σ : St) (H : Hp) (v : V) (u : Value) (Q : St → Hp → Prop), Inv X pins σ H s → RelV v u → t v σ H Q →
    wpAny (model X.prog X.w) X.A (assign target X.env u) (fun _ s' => ∃ σ' H', Inv X pins σ' H' s' ∧ Q σ' H') X.xe s
/-- several targets, one after another -/
def PGs (X : Cx) (ts : List Expr) (t : TGs) : Prop :=
  ∀ (pins : List (Addr × Obj)) (s : Shared) (σ : St) (H : Hp) (vs : List V) (us : List Value) (Q : St → Hp → Prop), Inv X pins σ H s → Vals vs us → t vs σ H Q →
    wpAny (model X.prog X.w) X.A (assignInOrder ((assignEach ts X.env).map (·.2)) us) (fun _ s' => ∃ σ' H', Inv X pins σ' H' s' ∧ Q σ' H') X.xe s
/-- o[i] = v, by values -/
abbrev TSet := V → V → V → Hp → (Hp → Prop) → Prop
def PSet (X : Cx) (t : TSet) : Prop :=
  ∀ (pins : List (Addr × Obj)) (s : Shared) (σ : St) (H : Hp) (o i v : V) (ov iv u : Value) (Q : Hp → Prop), Inv X pins σ H s → RelV o ov → RelV i iv → RelV v u → t o i v H Q →
    wpAny (model X.prog X.w) X.A (setItem ov iv u) (fun _ s' => ∃ H', Inv X pins σ H' s' ∧ Q H') X.xe s
/-- a op= b, by values -/
abbrev TIp := V → V → Hp → VK → Prop
def PIp (X : Cx) (op : Operator) (t : TIp) : Prop :=
  ∀ (pins : List (Addr × Obj)) (s : Shared) (σ : St) (H : Hp) (x y : V) (v u : Value) (Q : VK), Inv X pins σ H s → RelV x v → RelV y u → t x y H Q →
    wpAny (model X.prog X.w) X.A (inplaceOp op v u) (EP X pins σ Q) X.xe s
section
variable {X : Cx} {pos : Pos}
def gName (i : Nat) : TG := fun v σ H Q => Q (σ.set i (some v)) H
theorem pg_name {i : Nat} {x : Str} (hN : X.N.Nodup) (hi : X.N[i]? = some x) (hx : Loc X.env.scope x) (hf : X.fn x = true ∨ X.env.scope.names.lookup x = some .local := by first | exact .inl rfl | exact .inr rfl | assumption) : PG X (.Name x pos) (gName i) := by
  intro pins s σ H v u Q I r h
  exact wpAny_assign_Name (store_ok I hN hi hx r (fun s' I' => ⟨_, H, I', h⟩) hf)
def gNil : TGs := fun vs σ H Q => vs = [] ∧ Q σ H
def gCons (t : TG) (u : TGs) : TGs := fun vs σ H Q => ∃ v r, vs = v :: r ∧ t v σ H fun σ' H' => u r σ' H' Q
theorem pgs_nil : PGs X [] gNil := by
  intro pins s σ H vs us Q I r h
  obtain ⟨e, h⟩ := h
  subst e
  cases r
  exact assignInOrder_nil ⟨σ, H, I, h⟩
theorem pgs_cons {e : Expr} {es : List Expr} {t : TG} {u : TGs} (h1 : PG X e t) (h2 : PGs X es u)
    (hs : (assignEach (e :: es) X.env).map (·.2) = assign e X.env :: (assignEach es X.env).map (·.2) := by rfl) : PGs X (e :: es) (gCons t u) := by
  intro pins s σ H vs us Q I r h
  obtain ⟨v, vr, e1, h⟩ := h
  subst e1
  cases r with
  | cons r rr =>
    rw [hs]
    refine assignInOrder_cons (thn (h1 pins s σ H _ _ _ I r h) fun _ s1 ⟨σ1, H1, I1, q1⟩ => ?_)
    exact h2 pins s1 σ1 H1 _ _ Q I1 rr q1
/-- (a, b, ..) = a tuple of that length -/
def gTup (K : PySem.W.Frag) (n : Nat) (t : TGs) : TG := fun v σ H Q => ∃ a xs, v = .ref a ∧ SqT K H a xs ∧ xs.length = n ∧ t xs σ H Q
theorem pg_tup {es : List Expr} {k : Nat} {t : TGs} {n : Nat} (hc : X.calm = true) (h : PGs X es t)
    (hn : (assignEach es X.env).length = n := by rfl) (hst : (assignEach es X.env).findIdx? (·.1) = none := by rfl) : PG X (.Tuple es k pos) (gTup X.K n t) := by
  intro pins s σ H v u Q I r hw
  obtain ⟨a, xs, e1, hq, hl, hw⟩ := hw
  subst e1
  cases r
  obtain ⟨its, rv, ht, hz⟩ := I.tuple hq
  refine assign_Tuple_tuple (I.ok.hd hc) ht (by simp [hn, ← hl, rv.length]) hst fun h' hx => ?_
  have I1 : Inv X pins σ H { s with heap := h' } := I.kept (t' := s.toks) fun b o e => hx b o (Nat.ne_of_lt (Heap.lt_size e)) e
  exact h pins _ σ H xs _ Q I1 (by simpa using rv) hw
/-- o[i] = .. -/
def gSub (to ti : TE) (t : TSet) : TG := fun v σ H Q => to σ H fun o H1 => ti σ H1 fun i H2 => t o i v H2 fun H3 => Q σ H3
theorem pg_sub {o i : Expr} {to ti : TE} {t : TSet} (ho : PE X o to) (hi : PE X i ti) (hs : PSet X t)
    (ha : ∀ v, assign (.Subscript o i pos) X.env v = (do
      let ov ← holding [v] (eval o X.env)
      let iv ← holding [v, ov] (eval i X.env)
      standAt pos
      holding [v, ov, iv] (setItem ov iv v)
      release [v, ov, iv] []) := by intro _; rfl) : PG X (.Subscript o i pos) (gSub to ti t) := by
  intro pins s σ H v u Q I r h
  rw [ha]
  refine wpAny_bind (wpAny_holding (thn (ho pins s σ H _ I h) fun ov s1 ⟨x, H1, I1, r1, q1⟩ => ?_))
  refine wpAny_bind (wpAny_holding (thn (hi pins s1 σ H1 _ I1 q1) fun iv s2 ⟨y, H2, I2, r2, q2⟩ => ?_))
  refine wpAny_bind (wpAny_standAt (wpAny_bind (wpAny_holding (thn (hs pins s2 σ H2 x y v ov iv u _ I2 r1 r2 r q2) fun _ s3 ⟨H3, I3, q3⟩ => ?_))))
  exact wpAny_release ⟨σ, H3, I3, q3⟩
/-- target = value -/
def tAsg (te : TE) (g : TG) : TS := fun D σ H => te σ H fun x H1 => g x σ H1 D.nx
theorem ps_asg {tg e : Expr} {te : TE} {g : TG} (he : PE X e te) (hg : PG X tg g) (hs : swapsWithSole [tg] e pos.line X.env = pure false := by rfl) (hw : swappedStores [tg] e X.env = pure none := by rfl)
    (h1 : (assignEach [tg] X.env).map (·.2) = [assign tg X.env] := by rfl) : PS X (.Assign [tg] e pos) (tAsg te g) := by
  intro pins s σ H D I h
  refine wpAny_Assign_stores (thn (he pins s σ H _ I h) fun v s1 ⟨x, H1, I1, r1, q1⟩ => ?_) hs hw
  rw [h1]
  exact thn (hg pins s1 σ H1 x v _ I1 r1 q1) fun _ s2 q => q
/-- name = value -/
theorem ps_set {i : Nat} {x : Str} {e : Expr} {te : TE} {pos' : Pos} (hN : X.N.Nodup) (hi : X.N[i]? = some x) (hx : Loc X.env.scope x) (he : PE X e te) (hs : swapsWith e (some (.Name x pos')) pos.line X.env = pure false := by rfl) (hf : X.fn x = true ∨ X.env.scope.names.lookup x = some .local := by first | exact .inl rfl | exact .inr rfl | assumption) :
    PS X (.Assign [.Name x pos'] e pos) (tAsg te (gName i)) := by
  intro pins s σ H D I h
  refine wpAny_Assign_Name (thn (he pins s σ H _ I h) fun v s1 ⟨y, H1, I1, r1, q1⟩ => ?_) hs
  exact store_ok I1 hN hi hx r1 (fun s2 I2 => ⟨_, H1, I2, q1⟩) hf
/-- a, b = x, y with plain local names: stored from the right; the pair itself is not tracked (the opening rows as in PyProof/Rows/TupAssign.lean:23) -/
def tPar (i j : Nat) (ta : TA) : TS := fun D σ H => ta σ H fun vs H1 => ∃ v w, vs = [v, w] ∧ D.nx ((σ.set i (some v)).set j (some w)) H1
theorem ps_par {i j : Nat} {x y : Str} {a b : Expr} {ta : TA} {px py pt : Pos} {kt k2 pt2} (hc : X.calm = true) (hN : X.N.Nodup) (hi : X.N[i]? = some x) (hj : X.N[j]? = some y) (hij : i ≠ j)
    (hx : X.env.scope.names.lookup x = some .local) (hy : X.env.scope.names.lookup y = some .local) (ha : PA X [a, b] ta)
    (hw : swappedStores [.Tuple [.Name x px, .Name y py] kt pt] (.Tuple [a, b] k2 pt2) X.env = pure (some [x, y]))
    (hs : swapsWithSole [.Tuple [.Name x px, .Name y py] kt pt] (.Tuple [a, b] k2 pt2) pos.line X.env = pure false := by rfl) :
    PS X (.Assign [.Tuple [.Name x px, .Name y py] kt pt] (.Tuple [a, b] k2 pt2) pos) (tPar i j ta) := by
  intro pins s σ H D I h
  rw [exec_Assign_arm]
  refine wpAny_bind (wpAny_standAt ?_)
  rw [hs]
  refine wpAny_bind (wpAny_pure ?_)
  rw [if_neg (by decide)]
  refine wpAny_bind (Tuple_ (thn (ha _ pins s σ H _ I h) fun us s1 ⟨vs, H1, I1, r1, q1⟩ => ?_))
  obtain ⟨v, w, e1, q1⟩ := q1
  subst e1
  obtain ⟨u1, u2, rfl, rv, rw'⟩ : ∃ u1 u2, us = [u1, u2] ∧ RelV v u1 ∧ RelV w u2 := by
    cases r1 with
    | cons p q =>
      cases q with
      | cons p' q' =>
        cases q'
        exact ⟨_, _, rfl, p, p'⟩
  refine wpAny_newObj_type ?_ (by show 2 ≤ sizeLine; decide)
  have I2 : Inv X pins σ H1 { s1 with heap := s1.heap.push { cls := .type "tuple", data := .seq [u1, u2].toArray } } := I1.kept (t' := s1.toks) fun b o e => Heap.get?_push_of_some _ e
  rw [hw]
  refine wpAny_bind (wpAny_pure ?_)
  show wpAny (model X.prog X.w) X.A (do rule "assign.swapped-stores"; let items ← unpackItems (.ref s1.heap.objs.size) 2 none; assignInOrder [fun v => bindName X.env y v, fun v => bindName X.env x v] items.reverse; pure Flow.next) _ _ _
  refine wpAny_bind (wpAny_rule (wpAny_bind (unpackItems_tuple (items := #[u1, u2]) (I.ok.hd hc) (IsTup.new s1.heap _) fun h' hx' => ?_)))
  have I3 := I2.kept (h' := h') (t' := s1.toks) fun b o e => hx' b o (Nat.ne_of_lt (Heap.lt_size e)) e
  show wpAny _ _ (assignInOrder [fun v => bindName X.env y v, fun v => bindName X.env x v] [u2, u1] >>= fun _ => pure Flow.next) _ _ _
  refine wpAny_bind (assignInOrder_cons (wpAny_bindName (store_ok I3 hN hj (.inl hy) rw' (fun s2 I4 => ?_) (.inr hy))))
  refine assignInOrder_cons (wpAny_bindName (store_ok I4 hN hi (.inl hx) rv (fun s3 I5 => assignInOrder_nil (wpAny_pure ?_)) (.inr hx)))
  rw [List.set_comm _ _ (Ne.symm hij)] at I5
  exact ⟨_, H1, I5, q1⟩
/-- name op= e -/
def tAug (i : Nat) (te : TE) (ti : TIp) : TS := fun D σ H => ∃ x, σ[i]? = some (some x) ∧ te σ H fun y H1 => ti x y H1 fun z H2 => D.nx (σ.set i (some z)) H2
theorem ps_aug {i : Nat} {x : Str} {e : Expr} {te : TE} {op : Operator} {ti : TIp} {pos' : Pos} (hN : X.N.Nodup) (hi : X.N[i]? = some x) (hx : Loc X.env.scope x) (he : PE X e te) (ho : PIp X op ti) (hf : X.fn x = true ∨ X.env.scope.names.lookup x = some .local := by first | exact .inl rfl | exact .inr rfl | assumption) :
    PS X (.AugAssign (.Name x pos') op e pos) (tAug i te ti) := by
  intro pins s σ H D I h
  obtain ⟨v, e1, h⟩ := h
  obtain ⟨m, hn, hl⟩ := I.loc
  have vis : Vis X.env.scope x := by rcases hx with k | k; exact .inl k; exact .inr (.inl k)
  obtain ⟨u, r, l⟩ := hl i x v hi e1 vis
  refine wpAny_AugAssign_Name ?_
  have go : wpAny (model X.prog X.w) X.A (eval e X.env) (fun w s₂ => wpAny (model X.prog X.w) X.A (inplaceOp op u w) (fun r s₃ => wpAny (model X.prog X.w) X.A (storeName X.env x r) (fun _ => SP X pins D .next) X.xe s₃) X.xe s₂) X.xe s := by
    refine thn (he pins s σ H _ I h) fun w s1 ⟨y, H1, I1, r1, q1⟩ => ?_
    refine thn (ho pins s1 σ H1 v y u w _ I1 r r1 q1) fun z s2 ⟨zv, H2, I2, r2, q2⟩ => ?_
    exact store_ok I2 hN hi hx r2 (fun s3 I3 => ⟨_, H2, I3, q2⟩) hf
  rcases l with ⟨hk, hm⟩ | ⟨hk, c, hc, hcell⟩
  · exact wpAny_loadName_local I.ok.kind hk hn hm go
  · rcases hk with hk | hk
    · exact wpAny_loadName_cell I.ok.kind hk hc hcell go
    · rcases hx with k | k
      · have : X.env.scope.names.lookup x = some .free := hk
        rw [k] at this; cases this
      · have : X.env.scope.names.lookup x = some .free := hk
        rw [k] at this; cases this
/-- o[i] op= e -/
def tAugS (to ti te : TE) (tget : V → V → Hp → VK → Prop) (tip : TIp) (tset : TSet) : TS := fun D σ H => to σ H fun o H1 => ti σ H1 fun i H2 => tget o i H2 fun x H3 => te σ H3 fun y H4 => tip x y H4 fun z H5 => tset o i z H5 fun H6 => D.nx σ H6
/-- o[i], by values -/
def PGet (X : Cx) (t : V → V → Hp → VK → Prop) : Prop :=
  ∀ (pins : List (Addr × Obj)) (s : Shared) (σ : St) (H : Hp) (o i : V) (ov iv : Value) (Q : VK), Inv X pins σ H s → RelV o ov → RelV i iv → t o i H Q →
    wpAny (model X.prog X.w) X.A (getItem ov iv) (EP X pins σ Q) X.xe s
theorem ps_augS {o i e : Expr} {to ti te : TE} {tget : V → V → Hp → VK → Prop} {tip : TIp} {tset : TSet} {op : Operator} {tpos : Pos} (ho : PE X o to) (hi : PE X i ti) (hg : PGet X tget) (he : PE X e te) (hp : PIp X op tip) (hs : PSet X tset)
    (ha : ∀ ov iv new, augStore i ov iv new = (do holding [new, ov, iv] (setItem ov iv new); release [new, ov, iv] []; pure .next) := by intros; rfl) : PS X (.AugAssign (.Subscript o i tpos) op e pos) (tAugS to ti te tget tip tset) := by
  intro pins s σ H D I h
  refine wpAny_AugAssign_SubscriptAny (thn (ho pins s σ H _ I h) fun ov s1 ⟨x1, H1, I1, r1, q1⟩ => ?_) ha
  refine thn (hi pins s1 σ H1 _ I1 q1) fun iv s2 ⟨x2, H2, I2, r2, q2⟩ => ?_
  refine thn (hg pins s2 σ H2 x1 x2 ov iv _ I2 r1 r2 q2) fun old s3 ⟨x3, H3, I3, r3, q3⟩ => ?_
  refine thn (he pins s3 σ H3 _ I3 q3) fun v s4 ⟨x4, H4, I4, r4, q4⟩ => ?_
  refine thn (hp pins s4 σ H4 x3 x4 old v _ I4 r3 r4 q4) fun new s5 ⟨x5, H5, I5, r5, q5⟩ => ?_
  exact thn (hs pins s5 σ H5 x1 x2 x5 ov iv new _ I5 r1 r2 r5 q5) fun _ s6 ⟨H6, I6, q6⟩ => ⟨σ, H6, I6, q6⟩
/-- ints -/
def ipI (f : Int → Int → Int) : TIp := fun x y H Q => ∃ i j, x = .int i ∧ y = .int j ∧ Q (.int (f i j)) H
theorem ip_add : PIp X .Add (ipI fun i j => i + j) := by
  intro pins s σ H x y v u Q I r1 r2 h
  obtain ⟨i, j, e1, e2, q⟩ := h
  subst e1; subst e2
  obtain ⟨t, rfl⟩ := r1
  obtain ⟨t', rfl⟩ := r2
  exact iadd_int ⟨.int _, H, I.tok _, ⟨_, rfl⟩, q⟩
theorem ip_sub : PIp X .Sub (ipI fun i j => i - j) := by
  intro pins s σ H x y v u Q I r1 r2 h
  obtain ⟨i, j, e1, e2, q⟩ := h
  subst e1; subst e2
  obtain ⟨t, rfl⟩ := r1
  obtain ⟨t', rfl⟩ := r2
  exact isub_int ⟨.int _, H, I.tok _, ⟨_, rfl⟩, q⟩
end

/-! ### while -/
section
variable {X : Cx} {pos : Pos}
/-- the invariant W with its measure -/
def tWhile (c : TT) (tb : TS) : TS := fun D σ H => ∃ W : Nat → St → Hp → Prop, (∃ m, W m σ H) ∧ ∀ m σ H, W m σ H →
  c σ H fun b H1 => if b = true then ∃ N : St → Hp → Prop, (∀ σ' H', N σ' H' → ∃ m', m' < m ∧ W m' σ' H') ∧ tb { D with nx := N, ct := N, bk := D.nx } σ H1 else D.nx σ H1
theorem ps_while {c : Expr} {body : List Stmt} {tc : TT} {tb : TS} (hp : PassesOwn (model X.prog X.w) X.A X.env X.xe) (hc : PT X c tc) (hb : PSs X body tb) : PS X (.While c body [] pos) (tWhile tc tb) := by
  intro pins s σ H D I h
  obtain ⟨W, ⟨m0, w0⟩, turn⟩ := h
  refine wpAny_While (codeAny_whileLoop (fun n s' => ∃ σ' H', Inv X pins σ' H' s' ∧ W n σ' H') ?_ m0 ⟨σ, H, I, w0⟩)
  rintro n s1 ⟨σ1, H1, I1, w1⟩
  refine wpAny_passesOwn hp (thn (hc pins s1 σ1 H1 _ I1 (turn n σ1 H1 w1)) fun b s2 ⟨H2, I2, q2⟩ => ?_)
  cases b with
  | true =>
    obtain ⟨N, hN, q2⟩ := q2
    rw [if_pos rfl]
    refine wpAny_passesOwn hp (thn (hb pins s2 σ1 H2 _ I2 q2) fun f s3 q3 => ?_)
    cases f with
    | next =>
      obtain ⟨σ3, H3, I3, n3⟩ := q3
      obtain ⟨m', hm, w3⟩ := hN σ3 H3 n3
      exact ⟨m', hm, σ3, H3, I3, w3⟩
    | cont =>
      obtain ⟨σ3, H3, I3, n3⟩ := q3
      obtain ⟨m', hm, w3⟩ := hN σ3 H3 n3
      exact ⟨m', hm, σ3, H3, I3, w3⟩
    | brk => exact q3
    | ret v => exact q3
  | false =>
    rw [if_neg Bool.false_ne_true]
    exact wpAny_execs_nil ⟨σ1, H2, I2, q2⟩
end

/-! ### what a loop or a comprehension walks -/
/-- at turn i: it yields x (the heap may grow), or it stops -/
structure It where
  go : Nat → Hp → Prop
  yld : Nat → Hp → V → Hp → Prop
  stop : Nat → Hp → Prop
/-- the iterator's own objects may turn: they are not the frame's, not pinned, younger than the entry (or a comprehension's own) -/
def FpOk (X : Cx) (pins : List (Addr × Obj)) (H : Hp) (b : Addr) : Prop :=
  H b = none ∧ b ≠ X.env.locals ∧ b ∉ X.fs ∧ (b ∈ X.ex ∨ X.s₀.heap.objs.size ≤ b) ∧ (∀ x c, X.env.cells.lookup x = some c → c ≠ b) ∧ ∀ p ∈ X.pn ++ pins, p.1 ≠ b
theorem Inv.fpOk {X : Cx} {pins : List (Addr × Obj)} {σ : St} {H H' : Hp} {s : Shared} {b : Addr} (I : Inv X pins σ H s) (hb : s.heap.objs.size ≤ b) (hn : H' b = none) : FpOk X pins H' b := by
  refine ⟨hn, Nat.ne_of_gt (Nat.lt_of_lt_of_le I.lt hb), I.nofs hb, .inr (Nat.le_trans I.sz hb), fun x c e z => ?_, fun p hp z => ?_⟩
  · obtain ⟨v, q⟩ := I.cell x c e
    exact absurd (Nat.lt_of_lt_of_le q.lt (by rw [z]; exact hb)) (Nat.lt_irrefl _)
  · exact absurd (Nat.lt_of_lt_of_le (Heap.lt_size (I.pin p hp).1) (by rw [z]; exact hb)) (Nat.lt_irrefl _)
structure Turn (P : Program) (w : World) (K : PySem.W.Frag) (tg : Expr) (J : It) (fp : List Addr) (it : Addr) (tn : Nat → Heap → Prop) : Prop where
  mem : it ∈ fp
  obj : ∀ i h, tn i h → ∀ b ∈ fp, ∃ o, h.get? b = some o ∧ ∀ v, o.data ≠ .cell v
  keep : ∀ i h h', tn i h → (∀ b ∈ fp, ∀ o, h.get? b = some o → h'.get? b = some o) → tn i h'
  item : ∀ (X : Cx), X.prog = P → X.w = w → X.K = K → X.calm = true → ∀ (i : Nat) (pins : List (Addr × Obj)) (s : Shared) (σ : St) (H : Hp) (E : Value → Shared → Prop), Inv X pins σ H s → (∀ b ∈ fp, FpOk X pins H b) → tn i s.heap → J.go i H →
    wpAny (model P w) X.A (pyNext (.ref it)) (fun r s1 => ∃ u, r = some u ∧
      wpAny (model P w) X.A (letOwnedTupleGo tg (.ref it) u) (fun _ s2 => ∃ x H', Inv X pins σ H' s2 ∧ RelV x u ∧ J.yld i H x H' ∧ tn (i + 1) s2.heap ∧ ∀ b ∈ fp, H' b = none) E s1) E s
  done : ∀ (X : Cx), X.prog = P → X.w = w → X.K = K → X.calm = true → ∀ (i : Nat) (pins : List (Addr × Obj)) (s : Shared) (σ : St) (H : Hp) (E : Value → Shared → Prop), Inv X pins σ H s → (∀ b ∈ fp, FpOk X pins H b) → tn i s.heap → J.stop i H →
    wpAny (model P w) X.A (pyNext (.ref it)) (fun r s1 => r = none ∧ Inv X pins σ H s1) E s
  self : ∀ (A : Around) (i : Nat) (s : Shared) (Q : Value → Shared → Prop) (E : Value → Shared → Prop), tn i s.heap → Q (.ref it) s → wpAny (model P w) A (pyIter (.ref it)) Q E s
abbrev TI := St → Hp → (It → Hp → Prop) → Prop
/-- an iterator has come -/
def PIE (X : Cx) (pins : List (Addr × Obj)) (σ : St) (tg : Expr) (R : It → Hp → Prop) (itv : Value) (s2 : Shared) : Prop :=
  ∃ (it : Addr) (fp : List Addr) (tn : Nat → Heap → Prop) (J : It) (H' : Hp), itv = .ref it ∧ Inv X pins σ H' s2 ∧ Turn X.prog X.w X.K tg J fp it tn ∧ tn 0 s2.heap ∧ (∀ b ∈ fp, FpOk X pins H' b) ∧ R J H'
def PI (X : Cx) (tg iter : Expr) (wi : TI) : Prop :=
  ∀ (pins : List (Addr × Obj)) (s : Shared) (σ : St) (H : Hp) (R : It → Hp → Prop), Inv X pins σ H s → wi σ H R →
    wpAny (model X.prog X.w) X.A (eval iter X.env) (fun v s1 => wpAny (model X.prog X.w) X.A (pyIter v) (PIE X pins σ tg R) X.xe s1) X.xe s

/-- the step ahead of the store is nothing for an iterator that keeps no tuple -/
theorem go_of {M : Model} {A : Around} {E : Value → Shared → Prop} {s : Shared} {tg : Expr} {it : Addr} {u : Value} {o : Obj} {n : String} {vs : Array Value} {Q : Unit → Shared → Prop} (ho : s.heap.get? it = some o) (hc : o.cls = .type n) (hd : o.data = .fields vs)
    (hn : ["enumerate", "zip", "dict_itemiterator", "dict_reverseitemiterator", "odict_iterator", "itertools.zip_longest", "itertools.pairwise"].contains n = false) (hQ : Q () s) : wpAny M A (letOwnedTupleGo tg (.ref it) u) Q E s := by
  unfold letOwnedTupleGo
  cases tg <;> first
    | exact wpAny_pure hQ
    | (cases u <;> first
        | exact wpAny_pure hQ
        | (refine wpAny_bind (wpAny_load ho ?_)
           rw [hc, hd]
           show wpAny M A (if (["enumerate", "zip", "dict_itemiterator", "dict_reverseitemiterator", "odict_iterator", "itertools.zip_longest", "itertools.pairwise"].contains n && vs[0]? == some (rawInt _)) = true then _ else _) Q E s
           rw [if_neg (by intro h; rw [hn, Bool.false_and] at h; cases h)]
           exact wpAny_pure hQ))

/-- the list at a, as it stands at each turn (a loop may append to it) -/
def Itl (K : PySem.W.Frag) (a : Addr) : It :=
  ⟨fun i H => ∃ xs x, SqL K H a xs ∧ xs[i]? = some x, fun i H x H' => H' = H ∧ ∀ xs, SqL K H a xs → xs[i]? = some x, fun i H => ∃ xs, SqL K H a xs ∧ xs.length ≤ i⟩
def Itt (K : PySem.W.Frag) (a : Addr) : It :=
  ⟨fun i H => ∃ xs x, SqT K H a xs ∧ xs[i]? = some x, fun i H x H' => H' = H ∧ ∀ xs, SqT K H a xs → xs[i]? = some x, fun i H => ∃ xs, SqT K H a xs ∧ xs.length ≤ i⟩
/-- lo, lo + 1, .. (n of them) -/
def Itr (lo : Int) (n : Nat) : It := ⟨fun i _ => i < n, fun i H x H' => H' = H ∧ x = .int (lo + i), fun i _ => n ≤ i⟩
theorem turn_list {P : Program} {w : World} {K : PySem.W.Frag} {tg : Expr} (a it : Addr) : Turn P w K tg (Itl K a) [it] it (fun i h => h.IsListIter it a i) where
  mem := by simp
  obj := fun i h st b hb => by
    have e : b = it := by simpa using hb
    subst e
    obtain ⟨o, e, c, d⟩ := st
    exact ⟨o, e, fun v z => by rw [d] at z; cases z⟩
  keep := fun i h h' st k => st.at fun o e => k it (by simp) o e
  item := by
    intro X hP hw hK hc i pins s σ H E I hf st hg
    subst hP hw hK
    obtain ⟨xs, x, hq, hx⟩ := hg
    obtain ⟨its, rv, p, hz⟩ := I.list hq
    obtain ⟨u, hu, ru⟩ := rv.get hx
    obtain ⟨f0, f1, f2, f3, f4, f5⟩ := hf it (by simp)
    refine wpAny_pyNext_list_item st p.isList (x := u) (by simpa using hu) fun h' st' sb => ?_
    have I1 : Inv X pins σ H { s with heap := h' } := I.turned (t' := s.toks) (fun b o hb e => (sb.2 b hb).trans e) f0 f1 f3 f4 f5
    obtain ⟨o, e, c, d⟩ := id st'
    exact ⟨u, rfl, go_of (s := { s with heap := h' }) e c d (by decide) ⟨x, H, I1, ru, ⟨rfl, fun ys hy => by rw [I.list_inj hy hq]; exact hx⟩, st', fun b hb => (hf b hb).1⟩⟩
  done := by
    intro X hP hw hK hc i pins s σ H E I hf st hg
    subst hP hw hK
    obtain ⟨xs, hq, hx⟩ := hg
    obtain ⟨its, rv, p, hz⟩ := I.list hq
    obtain ⟨f0, f1, f2, f3, f4, f5⟩ := hf it (by simp)
    have hl := rv.length
    exact wpAny_pyNext_list_end (I.ok.hd hc) st p.isList (by simp; omega) fun h' eb => ⟨rfl, I.turned (t' := s.toks) (fun b o hb e => eb b o hb e) f0 f1 f3 f4 f5⟩
  self := fun _ _ _ _ _ st h => wpAny_pyIter_listiter st h
theorem turn_tuple {P : Program} {w : World} {K : PySem.W.Frag} {tg : Expr} (a it : Addr) : Turn P w K tg (Itt K a) [it] it (fun i h => h.IsTupleIter it a i) where
  mem := by simp
  obj := fun i h st b hb => by
    have e : b = it := by simpa using hb
    subst e
    obtain ⟨o, e, c, d⟩ := st
    exact ⟨o, e, fun v z => by rw [d] at z; cases z⟩
  keep := fun i h h' st k => st.at fun o e => k it (by simp) o e
  item := by
    intro X hP hw hK hc i pins s σ H E I hf st hg
    subst hP hw hK
    obtain ⟨xs, x, hq, hx⟩ := hg
    obtain ⟨its, rv, p, hz⟩ := I.tuple hq
    obtain ⟨u, hu, ru⟩ := rv.get hx
    obtain ⟨f0, f1, f2, f3, f4, f5⟩ := hf it (by simp)
    refine wpAny_pyNext_tuple_item st (show s.heap.IsTuple a its.toArray from p) (x := u) (by simpa using hu) fun h' st' sb => ?_
    have I1 : Inv X pins σ H { s with heap := h' } := I.turned (t' := s.toks) (fun b o hb e => (sb.2 b hb).trans e) f0 f1 f3 f4 f5
    obtain ⟨o, e, c, d⟩ := id st'
    exact ⟨u, rfl, go_of (s := { s with heap := h' }) e c d (by decide) ⟨x, H, I1, ru, ⟨rfl, fun ys hy => by rw [I.tuple_inj hy hq]; exact hx⟩, st', fun b hb => (hf b hb).1⟩⟩
  done := by
    intro X hP hw hK hc i pins s σ H E I hf st hg
    subst hP hw hK
    obtain ⟨xs, hq, hx⟩ := hg
    obtain ⟨its, rv, p, hz⟩ := I.tuple hq
    obtain ⟨f0, f1, f2, f3, f4, f5⟩ := hf it (by simp)
    have hl := rv.length
    exact wpAny_pyNext_tuple_end (I.ok.hd hc) st (show s.heap.IsTuple a its.toArray from p) (by simp; omega) fun h' eb => ⟨rfl, I.turned (t' := s.toks) (fun b o hb e => eb b o hb e) f0 f1 f3 f4 f5⟩
  self := fun _ _ _ _ _ st h => wpAny_pyIter_tupleiter st h
theorem turn_range {P : Program} {w : World} {K : PySem.W.Frag} {tg : Expr} (it : Addr) (lo : Int) (n : Nat) : Turn P w K tg (Itr lo n) [it] it (fun i h => IsRangeIter h it (lo + (i : Nat) * 1) ((n : Int) - (i : Nat)) 1) where
  mem := by simp
  obj := fun i h st b hb => by
    have e : b = it := by simpa using hb
    subst e
    exact ⟨_, st, fun v z => by
      have z' : Data.fields _ = Data.cell v := z
      cases z'⟩
  keep := fun i h h' st k => k it (by simp) _ st
  item := by
    intro X hP hw hK hc i pins s σ H E I hf st hg
    subst hP hw hK
    obtain ⟨f0, f1, f2, f3, f4, f5⟩ := hf it (by simp)
    have W := Walks.range (prog := X.prog) (w := X.w) (I.ok.hd hc) it lo 1 n
    refine W.item i s _ _ hg st fun v h' tk hv st' kk => ?_
    obtain ⟨t, rfl⟩ := hv
    have I1 : Inv X pins σ H { s with heap := h', toks := tk } := I.turned (fun b o hb e => kk b o (by simpa using hb) e) f0 f1 f3 f4 f5
    refine ⟨_, rfl, go_of (s := { s with heap := h', toks := tk }) (n := "range_iterator") st' rfl rfl (by decide) ⟨.int (lo + i), H, I1, ⟨t, ?_⟩, ⟨rfl, rfl⟩, st', fun b hb => (hf b hb).1⟩⟩
    rw [Int.mul_one]
  done := by
    intro X hP hw hK hc i pins s σ H E I hf st hg
    subst hP hw hK
    obtain ⟨f0, f1, f2, f3, f4, f5⟩ := hf it (by simp)
    exact wpAny_pyNext_range_end (I.ok.hd hc) st (by have : n ≤ i := hg; omega) fun h' eb => ⟨rfl, I.turned (t' := s.toks) (fun b o hb e => eb b o hb e) f0 f1 f3 f4 f5⟩
  self := fun _ _ _ _ _ st h => wpAny_pyIter_rangeiter st h
end L2

namespace L2
open PySem PySem.Spec PyProof.Rows
section
variable {X : Cx} {tg : Expr}
def iList (K : PySem.W.Frag) (tl : TE) : TI := fun σ H R => tl σ H fun x H1 => ∃ a, x = .ref a ∧ (∃ xs, SqL K H1 a xs) ∧ R (Itl K a) H1
def iTup (K : PySem.W.Frag) (tl : TE) : TI := fun σ H R => tl σ H fun x H1 => ∃ a, x = .ref a ∧ (∃ xs, SqT K H1 a xs) ∧ R (Itt K a) H1
theorem pi_list {l : Expr} {tl : TE} (hl : PE X l tl) : PI X tg l (iList X.K tl) := by
  intro pins s σ H R I h
  refine thn (hl pins s σ H _ I h) fun v s1 ⟨x, H1, I1, r1, q1⟩ => ?_
  obtain ⟨a, e, ⟨xs, hq⟩, q⟩ := q1
  subst e
  cases r1
  obtain ⟨its, rv, p, hz⟩ := I1.list hq
  refine wpAny_pyIter_list p.isList ?_
  refine ⟨s1.heap.objs.size, [s1.heap.objs.size], _, _, H1, rfl, I1.kept (t' := s1.toks) fun b o e => Heap.get?_push_of_some _ e, turn_list a _, ⟨_, Heap.get?_push_size _ rfl, rfl, rfl⟩, fun b hb => ?_, q⟩
  have e : b = s1.heap.objs.size := by simpa using hb
  subst e
  exact I1.fpOk (Nat.le_refl _) (I1.hok.fresh (Nat.le_refl _))
theorem pi_tup {l : Expr} {tl : TE} (hl : PE X l tl) : PI X tg l (iTup X.K tl) := by
  intro pins s σ H R I h
  refine thn (hl pins s σ H _ I h) fun v s1 ⟨x, H1, I1, r1, q1⟩ => ?_
  obtain ⟨a, e, ⟨xs, hq⟩, q⟩ := q1
  subst e
  cases r1
  obtain ⟨its, rv, p, hz⟩ := I1.tuple hq
  refine wpAny_pyIter_tuple (show s1.heap.IsTuple a its.toArray from p) ?_
  refine ⟨s1.heap.objs.size, [s1.heap.objs.size], _, _, H1, rfl, I1.kept (t' := s1.toks) fun b o e => Heap.get?_push_of_some _ e, turn_tuple a _, ⟨_, Heap.get?_push_size _ rfl, rfl, rfl⟩, fun b hb => ?_, q⟩
  have e : b = s1.heap.objs.size := by simpa using hb
  subst e
  exact I1.fpOk (Nat.le_refl _) (I1.hok.fresh (Nat.le_refl _))
/-- a range object just made, walked -/
theorem range_it {pins : List (Addr × Obj)} {σ : St} {H : Hp} {s : Shared} {R : It → Hp → Prop} {E : Value → Shared → Prop} {lo hi : Int} {t u v : Tok} {tk : Nat} (I : Inv X pins σ H s) (h1 : -(2 ^ 62) ≤ lo) (h2 : lo < 2 ^ 62) (h3 : -(2 ^ 62) ≤ hi) (h4 : hi < 2 ^ 62)
    (q : R (Itr lo (hi - lo).toNat) H) : wpAny (model X.prog X.w) X.A (pyIter (.ref s.heap.objs.size)) (PIE X pins σ tg R) E { s with heap := s.heap.push { cls := .type "range", data := .fields #[.int lo t, .int hi u, .int 1 v] }, toks := tk } := by
  refine wpAny_pyIter_range (IsRange.new ..) (small_one h1 h2 h3 h4) ?_
  have I1 : Inv X pins σ H { s with heap := s.heap.push { cls := .type "range", data := .fields #[.int lo t, .int hi u, .int 1 v] }, toks := tk } := I.kept fun b o e => Heap.get?_push_of_some _ e
  refine ⟨(s.heap.push { cls := .type "range", data := .fields #[.int lo t, .int hi u, .int 1 v] }).objs.size, [(s.heap.push { cls := .type "range", data := .fields #[.int lo t, .int hi u, .int 1 v] }).objs.size], _, _, H, rfl,
    I1.kept (t' := tk) fun b o e => Heap.get?_push_of_some _ e, turn_range _ lo (hi - lo).toNat, ?_, fun b hb => ?_, q⟩
  · have e1 : lo + ((0 : Nat) : Int) * 1 = lo := by simp
    have e2 : (((hi - lo).toNat : Nat) : Int) - ((0 : Nat) : Int) = Builtin.Range.rangeSize lo hi 1 := by rw [rangeSize_one]; split <;> omega
    show IsRangeIter _ _ (lo + ((0 : Nat) : Int) * 1) ((((hi - lo).toNat : Nat) : Int) - ((0 : Nat) : Int)) 1
    rw [e1, e2]
    exact Heap.get?_push_size _ rfl
  · have e : b = (s.heap.push { cls := .type "range", data := .fields #[.int lo t, .int hi u, .int 1 v] }).objs.size := by simpa using hb
    subst e
    exact I1.fpOk (Nat.le_refl _) (I1.hok.fresh (Nat.le_refl _))
def iRng1 (ta : TA) : TI := fun σ H R => ta σ H fun vs H1 => ∃ j : Int, vs = [.int j] ∧ -(2 ^ 62) ≤ j ∧ j < 2 ^ 62 ∧ R (Itr 0 j.toNat) H1
def iRng2 (ta : TA) : TI := fun σ H R => ta σ H fun vs H1 => ∃ i j : Int, vs = [.int i, .int j] ∧ (-(2 ^ 62) ≤ i ∧ i < 2 ^ 62 ∧ -(2 ^ 62) ≤ j ∧ j < 2 ^ 62) ∧ R (Itr i (j - i).toNat) H1
theorem pi_range1 {a : Expr} {ta : TA} {p pos : Pos} (hg : Gl X "range") (hm : X.mg "range" = none) (ha : PA X [a] ta) (hs : starEach [a] X.env = [(false, eval a X.env)] := by rfl) : PI X tg (.Call (.Name "range" p) [a] [] pos) (iRng1 ta) := by
  intro pins s σ H R I h
  refine Call_ (ld_blt I hg hm boot_range (PyProof.Rows.callWith_type1 (thn (ha pos pins s σ H _ I h) fun us s1 ⟨vs, H1, I1, r1, q1⟩ => ?_) hs rfl))
  obtain ⟨j, e, q1, q2, q⟩ := q1
  subst e
  cases r1 with
  | cons r rr =>
    cases rr
    obtain ⟨t, rfl⟩ := r
    exact call_range_1 (range_it I1 (by omega) (by omega) q1 q2 (by simpa using q))
theorem pi_range2 {a b : Expr} {ta : TA} {p pos : Pos} (hg : Gl X "range") (hm : X.mg "range" = none) (ha : PA X [a, b] ta) (hs : starEach [a, b] X.env = [(false, eval a X.env), (false, eval b X.env)] := by rfl) (hs2 : starEach [b] X.env = [(false, eval b X.env)] := by rfl) :
    PI X tg (.Call (.Name "range" p) [a, b] [] pos) (iRng2 ta) := by
  intro pins s σ H R I h
  refine Call_ (ld_blt I hg hm boot_range (PyProof.Rows.callWith_type1 (thn (ha pos pins s σ H _ I h) fun us s1 ⟨vs, H1, I1, r1, q1⟩ => ?_) (by rw [hs, hs2]) (by rw [hs2]; rfl)))
  obtain ⟨i, j, e, ⟨q1, q2, q3, q4⟩, q⟩ := q1
  subst e
  cases r1 with
  | cons r rr =>
    cases rr with
    | cons r' rr =>
      cases rr
      obtain ⟨t, rfl⟩ := r
      obtain ⟨t', rfl⟩ := r'
      exact call_range_2 (range_it I1 q1 q2 q3 q4 q)

/-! ### for -/
/-- W: the invariant by the turn and a measure; N: what the body is to reach -/
def tFor (wi : TI) (g : TG) (tb : TS) : TS := fun D σ H => wi σ H fun J H1 => ∃ W : Nat → Nat → St → Hp → Prop, (∃ m, W 0 m σ H1) ∧ ∀ i m σ H, W i m σ H →
  (J.stop i H ∧ D.nx σ H) ∨ (J.go i H ∧ ∃ N : St → Hp → Prop, (∀ σ' H', N σ' H' → ∃ m', m' < m ∧ W (i + 1) m' σ' H') ∧ ∀ x H', J.yld i H x H' → g x σ H' fun σ2 H2 => tb { D with nx := N, ct := N, bk := D.nx } σ2 H2)
/-- the records at fp as they stand -/
def pinsAt (fp : List Addr) (h : Heap) : List (Addr × Obj) := fp.filterMap fun b => (h.get? b).map fun o => (b, o)
theorem mem_pinsAt {fp : List Addr} {h : Heap} {b : Addr} {o : Obj} (hb : b ∈ fp) (e : h.get? b = some o) : (b, o) ∈ pinsAt fp h := List.mem_filterMap.mpr ⟨b, hb, by rw [e]; rfl⟩
theorem of_pinsAt {fp : List Addr} {h : Heap} {p : Addr × Obj} (hp : p ∈ pinsAt fp h) : p.1 ∈ fp ∧ h.get? p.1 = some p.2 := by
  obtain ⟨b, hb, e⟩ := List.mem_filterMap.mp hp
  cases q : h.get? b with
  | none => rw [q] at e; cases e
  | some o =>
    rw [q] at e
    have e' : (b, o) = p := Option.some.inj e
    subst e'
    exact ⟨hb, q⟩
theorem Inv.pinned {pins : List (Addr × Obj)} {σ : St} {H : Hp} {s : Shared} {fp : List Addr} (I : Inv X pins σ H s) (hf : ∀ b ∈ fp, FpOk X pins H b) (ho : ∀ b ∈ fp, ∃ o, s.heap.get? b = some o ∧ ∀ v, o.data ≠ .cell v) : Inv X (pins ++ pinsAt fp s.heap) σ H s :=
  I.pins_of fun p hp => (List.mem_append.mp hp).elim (fun z => I.pin p (List.mem_append_right _ z)) fun z => by
    obtain ⟨hb, e⟩ := of_pinsAt z
    obtain ⟨f0, f1, f2, _⟩ := hf p.1 hb
    obtain ⟨o, e', d⟩ := ho p.1 hb
    rw [e] at e'; cases e'
    exact ⟨e, f0, f1, f2, d⟩
theorem Inv.unpinned {pins pl : List (Addr × Obj)} {σ : St} {H : Hp} {s : Shared} (I : Inv X (pins ++ pl) σ H s) : Inv X pins σ H s := I.pins_of fun p hp => I.pin p (List.mem_append_right _ (List.mem_append_left _ hp))
theorem ps_for {iter : Expr} {body : List Stmt} {wi : TI} {g : TG} {tb : TS} {pos : Pos} (hp : PassesOwn (model X.prog X.w) X.A X.env X.xe) (hc : X.calm = true) (hi : PI X tg iter wi) (hg : PG X tg g) (hb : PSs X body tb)
    (hs : ∀ x, foldedSetIterable iter X.env x = pure x := by intro _; rfl) : PS X (.For tg iter body [] pos) (tFor wi g tb) := by
  intro pins s σ H D I h
  refine wpAny_For (thn (hi pins s σ H _ I h) fun v s1 h1 => thn h1 fun itv s2 h2 => ?_) hs
  obtain ⟨it, fp, tn, J, H2, e, I2, T, st2, f2, W, ⟨m0, w0⟩, turn⟩ := h2
  subst e
  -- what stays true of the iterator's objects through the loop
  have stat : ∀ {H' : Hp}, (∀ b ∈ fp, H' b = none) → ∀ b ∈ fp, FpOk X pins H' b := fun hn b hb => ⟨hn b hb, (f2 b hb).2⟩
  refine codeAny_forLoop_any (fun n s' => ∃ i σ' H', Inv X pins σ' H' s' ∧ tn i s'.heap ∧ (∀ b ∈ fp, H' b = none) ∧ W i n σ' H') ?_ m0 ⟨0, σ, H2, I2, st2, fun b hb => (f2 b hb).1, w0⟩
  rintro n s3 ⟨i, σ3, H3, I3, st3, fr3, w3⟩
  rcases turn i n σ3 H3 w3 with ⟨stop, qn⟩ | ⟨go, N, hN, step⟩
  · refine wpAny_passesOwn hp (thn (T.done X rfl rfl rfl hc i pins s3 σ3 H3 X.xe I3 (stat fr3) st3 stop) fun r s4 ⟨hr, I4⟩ => ?_)
    subst hr
    exact wpAny_execs_nil ⟨σ3, H3, I4, qn⟩
  · refine wpAny_passesOwn hp (thn (T.item X rfl rfl rfl hc i pins s3 σ3 H3 X.xe I3 (stat fr3) st3 go) fun r s4 ⟨u, hr, h4⟩ => ?_)
    subst hr
    refine wpAny_passesOwn hp (thn h4 fun _ s5 ⟨x, H5, I5, r5, y5, st5, fr5⟩ => ?_)
    have I5' := I5.pinned (stat fr5) (T.obj _ _ st5)
    refine wpAny_passesOwn hp (thn (hg _ s5 σ3 H5 x u _ I5' r5 (step x H5 y5)) fun _ s6 ⟨σ6, H6, I6, q6⟩ => ?_)
    refine wpAny_passesOwn hp (thn (hb _ s6 σ6 H6 _ I6 q6) fun f s7 q7 => ?_)
    have again : ∀ {σ7 : St} {H7 : Hp}, Inv X (pins ++ pinsAt fp s5.heap) σ7 H7 s7 → N σ7 H7 → ∃ m, m < n ∧ ∃ i σ' H', Inv X pins σ' H' s7 ∧ tn i s7.heap ∧ (∀ b ∈ fp, H' b = none) ∧ W i m σ' H' := fun {σ7 H7} I7 n7 => by
      obtain ⟨m', hm, w7⟩ := hN σ7 H7 n7
      refine ⟨m', hm, i + 1, σ7, H7, I7.unpinned, T.keep _ _ _ st5 fun b hb o e => (I7.pin (b, o) (List.mem_append_right _ (List.mem_append_right _ (mem_pinsAt hb e)))).1, fun b hb => ?_, w7⟩
      obtain ⟨o, e, d⟩ := T.obj _ _ st5 b hb
      exact (I7.pin (b, o) (List.mem_append_right _ (List.mem_append_right _ (mem_pinsAt hb e)))).2.1
    cases f with
    | next => obtain ⟨σ7, H7, I7, n7⟩ := q7; exact again I7 n7
    | cont => obtain ⟨σ7, H7, I7, n7⟩ := q7; exact again I7 n7
    | brk => obtain ⟨σ7, H7, I7, q7⟩ := q7; exact ⟨σ7, H7, I7.unpinned, q7⟩
    | ret v => obtain ⟨x7, σ7, H7, I7, r7, q7⟩ := q7; exact ⟨x7, σ7, H7, I7.unpinned, r7, q7⟩
end

/-! ### the forms one uses -/
/-- over a list that the body leaves as it is -/
theorem for_list {K : PySem.W.Frag} {a : Addr} {xs : List V} {g : TG} {tb : TS} {D : Ends} {σ : St} {H : Hp} (Pv : Nat → St → Hp → Prop) (h0 : Pv 0 σ H) (hl : ∀ i σ H, i ≤ xs.length → Pv i σ H → SqL K H a xs)
    (hs : ∀ i x σ H, xs[i]? = some x → Pv i σ H → g x σ H fun σ2 H2 => tb { D with nx := Pv (i + 1), ct := Pv (i + 1), bk := D.nx } σ2 H2) (hd : ∀ σ H, Pv xs.length σ H → D.nx σ H) :
    ∃ W : Nat → Nat → St → Hp → Prop, (∃ m, W 0 m σ H) ∧ ∀ i m σ H, W i m σ H →
      ((Itl K a).stop i H ∧ D.nx σ H) ∨ ((Itl K a).go i H ∧ ∃ N : St → Hp → Prop, (∀ σ' H', N σ' H' → ∃ m', m' < m ∧ W (i + 1) m' σ' H') ∧ ∀ x H', (Itl K a).yld i H x H' → g x σ H' fun σ2 H2 => tb { D with nx := N, ct := N, bk := D.nx } σ2 H2) := by
  refine ⟨fun i m σ H => m = xs.length - i ∧ i ≤ xs.length ∧ Pv i σ H, ⟨xs.length, by simp, Nat.zero_le _, h0⟩, ?_⟩
  rintro i m σ H ⟨rfl, hi, p⟩
  have q := hl i σ H hi p
  by_cases hlt : i < xs.length
  · refine .inr ⟨⟨xs, xs[i], q, by simp [hlt]⟩, Pv (i + 1), fun σ' H' p' => ⟨xs.length - (i + 1), by omega, rfl, hlt, p'⟩, fun x H' y => ?_⟩
    obtain ⟨e, y⟩ := y
    subst e
    exact hs i x σ _ (y xs q) p
  · have e : i = xs.length := by omega
    subst e
    exact .inl ⟨⟨xs, q, Nat.le_refl _⟩, hd σ H p⟩
theorem for_tup {K : PySem.W.Frag} {a : Addr} {xs : List V} {g : TG} {tb : TS} {D : Ends} {σ : St} {H : Hp} (Pv : Nat → St → Hp → Prop) (h0 : Pv 0 σ H) (hl : ∀ i σ H, i ≤ xs.length → Pv i σ H → SqT K H a xs)
    (hs : ∀ i x σ H, xs[i]? = some x → Pv i σ H → g x σ H fun σ2 H2 => tb { D with nx := Pv (i + 1), ct := Pv (i + 1), bk := D.nx } σ2 H2) (hd : ∀ σ H, Pv xs.length σ H → D.nx σ H) :
    ∃ W : Nat → Nat → St → Hp → Prop, (∃ m, W 0 m σ H) ∧ ∀ i m σ H, W i m σ H →
      ((Itt K a).stop i H ∧ D.nx σ H) ∨ ((Itt K a).go i H ∧ ∃ N : St → Hp → Prop, (∀ σ' H', N σ' H' → ∃ m', m' < m ∧ W (i + 1) m' σ' H') ∧ ∀ x H', (Itt K a).yld i H x H' → g x σ H' fun σ2 H2 => tb { D with nx := N, ct := N, bk := D.nx } σ2 H2) := by
  refine ⟨fun i m σ H => m = xs.length - i ∧ i ≤ xs.length ∧ Pv i σ H, ⟨xs.length, by simp, Nat.zero_le _, h0⟩, ?_⟩
  rintro i m σ H ⟨rfl, hi, p⟩
  have q := hl i σ H hi p
  by_cases hlt : i < xs.length
  · refine .inr ⟨⟨xs, xs[i], q, by simp [hlt]⟩, Pv (i + 1), fun σ' H' p' => ⟨xs.length - (i + 1), by omega, rfl, hlt, p'⟩, fun x H' y => ?_⟩
    obtain ⟨e, y⟩ := y
    subst e
    exact hs i x σ _ (y xs q) p
  · have e : i = xs.length := by omega
    subst e
    exact .inl ⟨⟨xs, q, Nat.le_refl _⟩, hd σ H p⟩
theorem for_range {lo : Int} {n : Nat} {g : TG} {tb : TS} {D : Ends} {σ : St} {H : Hp} (Pv : Nat → St → Hp → Prop) (h0 : Pv 0 σ H)
    (hs : ∀ i σ H, i < n → Pv i σ H → g (.int (lo + i)) σ H fun σ2 H2 => tb { D with nx := Pv (i + 1), ct := Pv (i + 1), bk := D.nx } σ2 H2) (hd : ∀ σ H, Pv n σ H → D.nx σ H) :
    ∃ W : Nat → Nat → St → Hp → Prop, (∃ m, W 0 m σ H) ∧ ∀ i m σ H, W i m σ H →
      ((Itr lo n).stop i H ∧ D.nx σ H) ∨ ((Itr lo n).go i H ∧ ∃ N : St → Hp → Prop, (∀ σ' H', N σ' H' → ∃ m', m' < m ∧ W (i + 1) m' σ' H') ∧ ∀ x H', (Itr lo n).yld i H x H' → g x σ H' fun σ2 H2 => tb { D with nx := N, ct := N, bk := D.nx } σ2 H2) := by
  refine ⟨fun i m σ H => m = n - i ∧ i ≤ n ∧ Pv i σ H, ⟨n, by simp, Nat.zero_le _, h0⟩, ?_⟩
  rintro i m σ H ⟨rfl, hi, p⟩
  by_cases hlt : i < n
  · refine .inr ⟨hlt, Pv (i + 1), fun σ' H' p' => ⟨n - (i + 1), by omega, rfl, hlt, p'⟩, fun x H' y => ?_⟩
    obtain ⟨e, y⟩ := y
    subst e y
    exact hs i σ _ hlt p
  · have e : i = n := by omega
    subst e
    exact .inl ⟨Nat.le_refl _, hd σ H p⟩
/-- while, by a word and a measure of the state -/
theorem while_by {c : TT} {tb : TS} {D : Ends} {σ : St} {H : Hp} (Pv : St → Hp → Prop) (μ : St → Hp → Nat) (h0 : Pv σ H)
    (hs : ∀ σ H, Pv σ H → c σ H fun b H1 => if b = true then tb { D with nx := fun σ' H' => Pv σ' H' ∧ μ σ' H' < μ σ H, ct := fun σ' H' => Pv σ' H' ∧ μ σ' H' < μ σ H, bk := D.nx } σ H1 else D.nx σ H1)
    (mono : ∀ σ H Q Q', (∀ b H1, Q b H1 → Q' b H1) → c σ H Q → c σ H Q') : tWhile c tb D σ H := by
  refine ⟨fun m σ H => m = μ σ H ∧ Pv σ H, ⟨_, rfl, h0⟩, ?_⟩
  rintro m σ H ⟨rfl, p⟩
  refine mono σ H _ _ (fun b H1 q => ?_) (hs σ H p)
  cases b with
  | true => exact ⟨_, fun σ' H' ⟨p', l⟩ => ⟨_, l, rfl, p'⟩, q⟩
  | false => exact q
end L2

namespace L2
open PySem PySem.Spec PyProof.Rows

abbrev R2 := V → V → Hp → VK → Prop
/-- a two-place operation on values: f is binaryOp op, inplaceOp op or compareOp op -/
def OpR (X : Cx) (f : Value → Value → Sem Value) (r : R2) : Prop :=
  ∀ (pins : List (Addr × Obj)) (s : Shared) (σ : St) (H : Hp) (x y : V) (v u : Value) (Q : VK), Inv X pins σ H s → RelV x v → RelV y u → r x y H Q →
    wpAny (model X.prog X.w) X.A (f v u) (EP X pins σ Q) X.xe s
/-- a one-place operation -/
def UnR (X : Cx) (f : Value → Sem Value) (r : V → Hp → VK → Prop) : Prop :=
  ∀ (pins : List (Addr × Obj)) (s : Shared) (σ : St) (H : Hp) (x : V) (v : Value) (Q : VK), Inv X pins σ H s → RelV x v → r x H Q →
    wpAny (model X.prog X.w) X.A (f v) (EP X pins σ Q) X.xe s
/-- a call of a value that is known (a builtin, a type) with values -/
def CallR (X : Cx) (f : Value) (r : List V → Hp → VK → Prop) : Prop :=
  ∀ (pins : List (Addr × Obj)) (s : Shared) (σ : St) (H : Hp) (xs : List V) (us : List Value) (Q : VK), Inv X pins σ H s → Vals xs us → r xs H Q →
    wpAny (model X.prog X.w) X.A (call f us) (EP X pins σ Q) X.xe s
/-- a value's truth -/
def TruR (X : Cx) (r : V → Hp → (Bool → Hp → Prop) → Prop) : Prop :=
  ∀ (pins : List (Addr × Obj)) (s : Shared) (σ : St) (H : Hp) (x : V) (v : Value) (Q : Bool → Hp → Prop), Inv X pins σ H s → RelV x v → r x H Q →
    wpAny (model X.prog X.w) X.A (truthy v) (TP X pins σ Q) X.xe s

def tOp (r : R2) (ta tb : TE) : TE := fun σ H Q => ta σ H fun x H1 => tb σ H1 fun y H2 => r x y H2 Q
def tUn (r : V → Hp → VK → Prop) (ta : TE) : TE := fun σ H Q => ta σ H fun x H1 => r x H1 Q
/-- ints in, under C, and a value out -/
def rI (C : Int → Int → Prop) (g : Int → Int → V) : R2 := fun x y H Q => ∃ i j, x = .int i ∧ y = .int j ∧ C i j ∧ Q (g i j) H
def rI0 (g : Int → Int → V) : R2 := fun x y H Q => ∃ i j, x = .int i ∧ y = .int j ∧ Q (g i j) H
def rU (g : Int → V) : V → Hp → VK → Prop := fun x H Q => ∃ i, x = .int i ∧ Q (g i) H

section
variable {X : Cx} {a b c : Expr} {ta tb tc : TE} {pos : Pos}

theorem binT (ha : PE X a ta) (hb : PE X b tb) {pins : List (Addr × Obj)} {s : Shared} {σ : St} {H : Hp} {R : V → V → Hp → Prop} (I : Inv X pins σ H s)
    (h : ta σ H fun x H1 => tb σ H1 fun y H2 => R x y H2) {Q : Value → Shared → Prop} {f : Value → Value → Sem Value}
    (hf : ∀ v u s2 x y H2, Inv X pins σ H2 s2 → RelV x v → RelV y u → R x y H2 → wpAny (model X.prog X.w) X.A (f v u) Q X.xe s2) :
    wpAny (model X.prog X.w) X.A (eval a X.env) (fun v s₁ => wpAny (model X.prog X.w) X.A (eval b X.env) (fun u s₂ => wpAny (model X.prog X.w) X.A (f v u) Q X.xe s₂) X.xe s₁) X.xe s := by
  refine thn (ha pins s σ H _ I h) fun v s1 ⟨x, H1, I1, r1, q1⟩ => ?_
  refine thn (hb pins s1 σ H1 _ I1 q1) fun u s2 ⟨y, H2, I2, r2, q2⟩ => ?_
  exact hf v u s2 x y H2 I2 r1 r2 q2

theorem pe_op {op : Operator} {r : R2} (ho : OpR X (binaryOp op) r) (ha : PE X a ta) (hb : PE X b tb) : PE X (.BinOp a op b pos) (tOp r ta tb) := by
  intro pins s σ H Q I h
  exact wpAny_BinOp (binT ha hb I h fun v u s2 x y H2 I2 rx ry q => ho pins s2 σ H2 x y v u Q I2 rx ry q)
theorem pe_un {op : UnaryOp} {r : V → Hp → VK → Prop} (ho : UnR X (unaryOp op) r) (ha : PE X a ta) : PE X (.UnaryOp op a pos) (tUn r ta) := by
  intro pins s σ H Q I h
  exact UnaryOp_ (thn (ha pins s σ H _ I h) fun v s1 ⟨x, H1, I1, r1, q1⟩ => ho pins s1 σ H1 x v Q I1 r1 q1)
/-- a op= e at a name: the name's slot i -/
theorem augR {op : Operator} {r : R2} (ho : OpR X (inplaceOp op) r) {pins : List (Addr × Obj)} {s : Shared} {σ : St} {H : Hp} {x y : V} {v u : Value} {Q : VK} (I : Inv X pins σ H s)
    (rx : RelV x v) (ry : RelV y u) (q : r x y H Q) : wpAny (model X.prog X.w) X.A (inplaceOp op v u) (EP X pins σ Q) X.xe s := ho pins s σ H x y v u Q I rx ry q

/-! ### ints -/
theorem opI {f : Value → Value → Sem Value} {C : Int → Int → Prop} {g : Int → Int → Int}
    (rule : ∀ (i j : Int) (t u : Tok) (s : Shared) (Q : Value → Shared → Prop) (E : Value → Shared → Prop), C i j → Q (.int (g i j) s.toks) { s with toks := s.toks + 1 } → wpAny (model X.prog X.w) X.A (f (.int i t) (.int j u)) Q E s) :
    OpR X f (rI C fun i j => .int (g i j)) := by
  intro pins s σ H x y v u Q I rx ry h
  obtain ⟨i, j, rfl, rfl, hc, q⟩ := h
  obtain ⟨t, rfl⟩ := rx
  obtain ⟨t', rfl⟩ := ry
  exact rule i j t t' s _ _ hc ⟨.int (g i j), H, I.tok _, ⟨_, rfl⟩, q⟩
theorem opI0 {f : Value → Value → Sem Value} {g : Int → Int → Int}
    (rule : ∀ (i j : Int) (t u : Tok) (s : Shared) (Q : Value → Shared → Prop) (E : Value → Shared → Prop), Q (.int (g i j) s.toks) { s with toks := s.toks + 1 } → wpAny (model X.prog X.w) X.A (f (.int i t) (.int j u)) Q E s) :
    OpR X f (rI0 fun i j => .int (g i j)) := by
  intro pins s σ H x y v u Q I rx ry h
  obtain ⟨i, j, rfl, rfl, q⟩ := h
  obtain ⟨t, rfl⟩ := rx
  obtain ⟨t', rfl⟩ := ry
  exact rule i j t t' s _ _ ⟨.int (g i j), H, I.tok _, ⟨_, rfl⟩, q⟩
theorem opB0 {f : Value → Value → Sem Value} {g : Int → Int → Bool}
    (rule : ∀ (i j : Int) (t u : Tok) (s : Shared) (Q : Value → Shared → Prop) (E : Value → Shared → Prop), Q (.bool (g i j)) s → wpAny (model X.prog X.w) X.A (f (.int i t) (.int j u)) Q E s) :
    OpR X f (rI0 fun i j => .bl (g i j)) := by
  intro pins s σ H x y v u Q I rx ry h
  obtain ⟨i, j, rfl, rfl, q⟩ := h
  obtain ⟨t, rfl⟩ := rx
  obtain ⟨t', rfl⟩ := ry
  exact rule i j t t' s _ _ ⟨.bl (g i j), H, I, rfl, q⟩

def CDiv (i j : Int) : Prop := 0 < j ∧ j < 1073741824
def CDivN (i j : Int) : Prop := j ≠ 0 ∧ j.natAbs < 1073741824
def CPow (i j : Int) : Prop := 0 ≤ j ∧ j ≤ 1000000 ∧ i.natAbs < 2 ^ 64
def CMul (i j : Int) : Prop := (-(2 ^ 64) < i ∧ i < 2 ^ 64) ∨ (-(2 ^ 64) < j ∧ j < 2 ^ 64)
theorem CMul.ok {i j : Int} (h : CMul i j) : IntMulOk i j := by
  rcases h with ⟨h1, h2⟩ | ⟨h1, h2⟩
  · exact .of_left (intBits_le_64 h1 h2)
  · exact .of_right (intBits_le_64 h1 h2)
theorem two_pow_nn (k : Nat) : (0 : Int) ≤ 2 ^ k := by
  rw [two_pow_cast]
  exact Int.natCast_nonneg _

theorem op_add : OpR X (binaryOp .Add) (rI0 fun i j => .int (i + j)) := opI0 fun _ _ _ _ _ _ _ q => add_int q
theorem op_sub : OpR X (binaryOp .Sub) (rI0 fun i j => .int (i - j)) := opI0 fun _ _ _ _ _ _ _ q => sub_int q
theorem op_mul : OpR X (binaryOp .Mult) (rI CMul fun i j => .int (i * j)) := opI fun _ _ _ _ _ _ _ hc q => mul_int q hc.ok
/-- // by a positive divisor -/
theorem op_fdiv : OpR X (binaryOp .FloorDiv) (rI CDiv fun i j => .int (i / j)) := opI fun i j _ _ _ _ _ hc q => by
  have h1 : (0 : Int) < j := hc.1
  have h2 : j < 1073741824 := hc.2
  exact floordiv_int (by omega) (by rw [Int.fdiv_eq_ediv_of_nonneg i (by omega)]; exact q) (.inl (PyProof.noPylong_small (by omega)))
theorem op_fdivN : OpR X (binaryOp .FloorDiv) (rI CDivN fun i j => .int (i.fdiv j)) := opI fun _ _ _ _ _ _ _ hc q => floordiv_int hc.1 q (.inl (PyProof.noPylong_small hc.2))
/-- % by a positive divisor of any size -/
theorem op_mod : OpR X (binaryOp .Mod) (rI (fun _ j => 0 < j) fun i j => .int (i % j)) := opI fun i j _ _ _ _ _ hc q => by
  have h1 : (0 : Int) < j := hc
  exact mod_int' (by omega) (by rw [Int.fmod_eq_emod_of_nonneg i (by omega)]; exact q)
theorem op_modN : OpR X (binaryOp .Mod) (rI (fun _ j => j ≠ 0) fun i j => .int (i.fmod j)) := opI fun _ _ _ _ _ _ _ hc q => mod_int' hc q
theorem op_pow : OpR X (binaryOp .Pow) (rI CPow fun i j => .int (i ^ j.toNat)) := opI fun _ _ _ _ _ _ _ hc q => pow_int_small hc.1 hc.2.1 hc.2.2 q
theorem op_shl : OpR X (binaryOp .LShift) (rI CPow fun i j => .int (i * 2 ^ j.toNat)) := opI fun _ _ _ _ _ _ _ hc q => lshift_int_small hc.1 hc.2.1 hc.2.2 q
theorem op_shr : OpR X (binaryOp .RShift) (rI (fun _ j => 0 ≤ j) fun i j => .int (i / 2 ^ j.toNat)) := opI fun i j _ _ _ _ _ hc q =>
  rshift_int hc (by rw [Int.fdiv_eq_ediv_of_nonneg i (two_pow_nn _)]; exact q)
theorem op_and : OpR X (binaryOp .BitAnd) (rI0 fun i j => .int (Builtin.bitAnd i j)) := opI0 fun _ _ _ _ _ _ _ q => and_int q
theorem op_or : OpR X (binaryOp .BitOr) (rI0 fun i j => .int (Builtin.bitOr i j)) := opI0 fun _ _ _ _ _ _ _ q => or_int q
theorem op_xor : OpR X (binaryOp .BitXor) (rI0 fun i j => .int (Builtin.bitXor i j)) := opI0 fun _ _ _ _ _ _ _ q => xor_int q

theorem iop_add : OpR X (inplaceOp .Add) (rI0 fun i j => .int (i + j)) := opI0 fun _ _ _ _ _ _ _ q => iadd_int q
theorem iop_sub : OpR X (inplaceOp .Sub) (rI0 fun i j => .int (i - j)) := opI0 fun _ _ _ _ _ _ _ q => isub_int q
theorem iop_mul : OpR X (inplaceOp .Mult) (rI CMul fun i j => .int (i * j)) := opI fun _ _ _ _ _ _ _ hc q => imul_int q hc.ok
theorem iop_fdiv : OpR X (inplaceOp .FloorDiv) (rI CDiv fun i j => .int (i / j)) := opI fun i j _ _ _ _ _ hc q => by
  have h1 : (0 : Int) < j := hc.1
  have h2 : j < 1073741824 := hc.2
  exact ifloordiv_int (by omega) (by rw [Int.fdiv_eq_ediv_of_nonneg i (by omega)]; exact q) (.inl (PyProof.noPylong_small (by omega)))
theorem iop_mod : OpR X (inplaceOp .Mod) (rI (fun _ j => 0 < j) fun i j => .int (i % j)) := opI fun i j _ _ _ _ _ hc q => by
  have h1 : (0 : Int) < j := hc
  exact imod_int (by omega) (by rw [Int.fmod_eq_emod_of_nonneg i (by omega)]; exact q)
theorem iop_shl : OpR X (inplaceOp .LShift) (rI CPow fun i j => .int (i * 2 ^ j.toNat)) := opI fun _ _ _ _ _ _ _ hc q => ilshift_int_small hc.1 hc.2.1 hc.2.2 q
theorem iop_shr : OpR X (inplaceOp .RShift) (rI (fun _ j => 0 ≤ j) fun i j => .int (i / 2 ^ j.toNat)) := opI fun i j _ _ _ _ _ hc q =>
  irshift_int hc (by rw [Int.fdiv_eq_ediv_of_nonneg i (two_pow_nn _)]; exact q)
theorem iop_and : OpR X (inplaceOp .BitAnd) (rI0 fun i j => .int (Builtin.bitAnd i j)) := opI0 fun _ _ _ _ _ _ _ q => iand_int q
theorem iop_or : OpR X (inplaceOp .BitOr) (rI0 fun i j => .int (Builtin.bitOr i j)) := opI0 fun _ _ _ _ _ _ _ q => ior_int q
theorem iop_xor : OpR X (inplaceOp .BitXor) (rI0 fun i j => .int (Builtin.bitXor i j)) := opI0 fun _ _ _ _ _ _ _ q => ixor_int q

theorem unI {f : Value → Sem Value} {g : Int → Int}
    (rule : ∀ (i : Int) (t : Tok) (s : Shared) (Q : Value → Shared → Prop) (E : Value → Shared → Prop), Q (.int (g i) s.toks) { s with toks := s.toks + 1 } → wpAny (model X.prog X.w) X.A (f (.int i t)) Q E s) :
    UnR X f (rU fun i => .int (g i)) := by
  intro pins s σ H x v Q I rx h
  obtain ⟨i, rfl, q⟩ := h
  obtain ⟨t, rfl⟩ := rx
  exact rule i t s _ _ ⟨.int (g i), H, I.tok _, ⟨_, rfl⟩, q⟩
theorem un_neg : UnR X (unaryOp .USub) (rU fun i => .int (-i)) := unI fun _ _ _ _ _ q => neg_int q
theorem un_inv : UnR X (unaryOp .Invert) (rU fun i => .int (Builtin.bitNot i)) := unI fun _ _ _ _ _ q => invert_int q

/-! ### bools among ints: n += (a < b) -/
theorem op_add_ib : OpR X (binaryOp .Add) (fun x y H Q => ∃ i k, x = .int i ∧ y = .bl k ∧ Q (.int (i + b2i k)) H) := by
  intro pins s σ H x y v u Q I rx ry h
  obtain ⟨i, k, rfl, rfl, q⟩ := h
  obtain ⟨t, rfl⟩ := rx
  cases ry
  exact add_int_bool ⟨.int (i + b2i k), H, I.tok _, ⟨_, rfl⟩, q⟩
end

/-! ### comparisons -/
/-- the scalars that == tells apart as data does -/
def scal : V → V → Bool
  | .non, .non => true | .non, .int _ => true | .int _, .non => true | .non, .bl _ => true | .bl _, .non => true | .non, .str _ => true | .str _, .non => true
  | .int _, .int _ => true | .bl _, .bl _ => true | .str _, .str _ => true | .byt _, .byt _ => true
  | .int _, .str _ => true | .str _, .int _ => true | .bl _, .str _ => true | .str _, .bl _ => true
  | _, _ => false
def rEq : R2 := fun x y H Q => scal x y = true ∧ Q (.bl (decide (x = y))) H
def rNe : R2 := fun x y H Q => scal x y = true ∧ Q (.bl (!decide (x = y))) H

theorem dec_int {i j : Int} : decide (V.int i = V.int j) = (i == j) := by
  rw [Bool.eq_iff_iff]
  simp
theorem dec_bl {i j : Bool} : decide (V.bl i = V.bl j) = (i == j) := by
  rw [Bool.eq_iff_iff]
  simp
theorem dec_str {i j : Str} : decide (V.str i = V.str j) = (i == j) := by
  rw [Bool.eq_iff_iff]
  simp
theorem dec_byt {i j : Array UInt8} : decide (V.byt i = V.byt j) = (i.toList == j.toList) := by
  rw [Bool.eq_iff_iff]
  cases i
  cases j
  simp

section
variable {X : Cx} {a b c : Expr} {ta tb tc : TE} {pos : Pos}
theorem fin_bl {pins : List (Addr × Obj)} {σ : St} {H : Hp} {s : Shared} {Q : VK} {k k' : Bool} (I : Inv X pins σ H s) (q : Q (.bl k) H) (e : k = k') : EP X pins σ Q (.bool k') s := by
  subst e
  exact ⟨.bl k, H, I, rfl, q⟩
theorem op_eq : OpR X (compareOp .Eq) rEq := by
  intro pins s σ H x y v u Q I rx ry h
  obtain ⟨hs, q⟩ := h
  cases x with
  | non =>
    cases rx
    cases y with
    | non => cases ry; exact PySem.EqNone.eq_none_none (fin_bl I q (by simp))
    | bl j => cases ry; exact PySem.EqNone.eq_none_bool (fin_bl I q (by simp))
    | int j => obtain ⟨t', rfl⟩ := ry; exact PySem.EqNone.eq_none_int (fin_bl I q (by simp))
    | str j => obtain ⟨t', rfl⟩ := ry; exact PySem.EqNone.eq_none_str (fin_bl I q (by simp))
    | _ => exact absurd (show false = true from hs) Bool.false_ne_true
  | bl i =>
    cases rx
    cases y with
    | non => cases ry; exact PySem.EqNone.eq_bool_none (fin_bl I q (by simp))
    | bl j => cases ry; exact eq_bool (fin_bl I q dec_bl)
    | str j => obtain ⟨t', rfl⟩ := ry; exact PySem.EqMixed.eq_bool_str (fin_bl I q (by simp))
    | _ => exact absurd (show false = true from hs) Bool.false_ne_true
  | int i =>
    obtain ⟨t, rfl⟩ := rx
    cases y with
    | non => cases ry; exact PySem.EqNone.eq_int_none (fin_bl I q (by simp))
    | int j => obtain ⟨t', rfl⟩ := ry; exact eq_int (fin_bl I q dec_int)
    | str j => obtain ⟨t', rfl⟩ := ry; exact PySem.EqMixed.eq_int_str (fin_bl I q (by simp))
    | _ => exact absurd (show false = true from hs) Bool.false_ne_true
  | str i =>
    obtain ⟨t, rfl⟩ := rx
    cases y with
    | non => cases ry; exact PySem.EqNone.eq_str_none (fin_bl I q (by simp))
    | bl j => cases ry; exact PySem.EqMixed.eq_str_bool (fin_bl I q (by simp))
    | int j => obtain ⟨t', rfl⟩ := ry; exact PySem.EqMixed.eq_str_int (fin_bl I q (by simp))
    | str j => obtain ⟨t', rfl⟩ := ry; exact eq_str (fin_bl I q dec_str)
    | _ => exact absurd (show false = true from hs) Bool.false_ne_true
  | byt i =>
    obtain ⟨t, rfl⟩ := rx
    cases y with
    | byt j => obtain ⟨t', rfl⟩ := ry; exact PySem.W.eq_bytes (fin_bl I q dec_byt)
    | _ => exact absurd (show false = true from hs) Bool.false_ne_true
  | _ => cases y <;> exact absurd (show false = true from hs) Bool.false_ne_true
theorem op_ne : OpR X (compareOp .NotEq) rNe := by
  intro pins s σ H x y v u Q I rx ry h
  obtain ⟨hs, q⟩ := h
  cases x with
  | non =>
    cases rx
    cases y with
    | non => cases ry; exact PySem.EqNone.ne_none_none (fin_bl I q (by simp))
    | bl j => cases ry; exact PySem.EqNone.ne_none_bool (fin_bl I q (by simp))
    | int j => obtain ⟨t', rfl⟩ := ry; exact PySem.EqNone.ne_none_int (fin_bl I q (by simp))
    | str j => obtain ⟨t', rfl⟩ := ry; exact PySem.EqNone.ne_none_str (fin_bl I q (by simp))
    | _ => exact absurd (show false = true from hs) Bool.false_ne_true
  | bl i =>
    cases rx
    cases y with
    | non => cases ry; exact PySem.EqNone.ne_bool_none (fin_bl I q (by simp))
    | bl j => cases ry; exact ne_bool (fin_bl I q (congrArg not dec_bl))
    | str j => obtain ⟨t', rfl⟩ := ry; exact PySem.EqMixed.ne_bool_str (fin_bl I q (by simp))
    | _ => exact absurd (show false = true from hs) Bool.false_ne_true
  | int i =>
    obtain ⟨t, rfl⟩ := rx
    cases y with
    | non => cases ry; exact PySem.EqNone.ne_int_none (fin_bl I q (by simp))
    | int j => obtain ⟨t', rfl⟩ := ry; exact ne_int (fin_bl I q (congrArg not dec_int))
    | str j => obtain ⟨t', rfl⟩ := ry; exact PySem.EqMixed.ne_int_str (fin_bl I q (by simp))
    | _ => exact absurd (show false = true from hs) Bool.false_ne_true
  | str i =>
    obtain ⟨t, rfl⟩ := rx
    cases y with
    | non => cases ry; exact PySem.EqNone.ne_str_none (fin_bl I q (by simp))
    | bl j => cases ry; exact PySem.EqMixed.ne_str_bool (fin_bl I q (by simp))
    | int j => obtain ⟨t', rfl⟩ := ry; exact PySem.EqMixed.ne_str_int (fin_bl I q (by simp))
    | str j => obtain ⟨t', rfl⟩ := ry; exact ne_str (fin_bl I q (congrArg not dec_str))
    | _ => exact absurd (show false = true from hs) Bool.false_ne_true
  | byt i =>
    obtain ⟨t, rfl⟩ := rx
    cases y with
    | byt j => obtain ⟨t', rfl⟩ := ry; exact PySem.W.ne_bytes (fin_bl I q (congrArg not dec_byt))
    | _ => exact absurd (show false = true from hs) Bool.false_ne_true
  | _ => cases y <;> exact absurd (show false = true from hs) Bool.false_ne_true

theorem op_lt : OpR X (compareOp .Lt) (rI0 fun i j => .bl (decide (i < j))) := opB0 fun _ _ _ _ _ _ _ q => lt_int q
theorem op_le : OpR X (compareOp .LtE) (rI0 fun i j => .bl (decide (i ≤ j))) := opB0 fun _ _ _ _ _ _ _ q => le_int q
theorem op_gt : OpR X (compareOp .Gt) (rI0 fun i j => .bl (decide (j < i))) := opB0 fun _ _ _ _ _ _ _ q => gt_int q
theorem op_ge : OpR X (compareOp .GtE) (rI0 fun i j => .bl (decide (j ≤ i))) := opB0 fun _ _ _ _ _ _ _ q => ge_int q
theorem op_lt_str : OpR X (compareOp .Lt) (fun x y H Q => ∃ i j, x = .str i ∧ y = .str j ∧ Q (.bl (decide (i.cps.toList < j.cps.toList))) H) := by
  intro pins s σ H x y v u Q I rx ry h
  obtain ⟨i, j, rfl, rfl, q⟩ := h
  obtain ⟨t, rfl⟩ := rx
  obtain ⟨t', rfl⟩ := ry
  exact lt_str (fin_bl I q rfl)
/-- the one string within the other -/
theorem op_in_str : OpR X (compareOp .In) (fun x y H Q => ∃ i j, x = .str i ∧ y = .str j ∧ Q (.bl (!(Builtin.Str.occurrences j i 0 j.length 1).isEmpty)) H) := by
  intro pins s σ H x y v u Q I rx ry h
  obtain ⟨i, j, rfl, rfl, q⟩ := h
  obtain ⟨t, rfl⟩ := rx
  obtain ⟨t', rfl⟩ := ry
  exact in_str (fin_bl I q rfl)

/-- is None, is not None: the right side a value none -/
theorem op_isN : OpR X (compareOp .Is) (fun x y H Q => y = .non ∧ Q (.bl (decide (x = .non))) H) := by
  intro pins s σ H x y v u Q I rx ry h
  obtain ⟨rfl, q⟩ := h
  cases ry
  refine is_none_gen (fin_bl I q ?_)
  cases x <;> first
    | (cases rx; rfl)
    | (obtain ⟨t, rfl⟩ := rx; rfl)
theorem op_notN : OpR X (compareOp .IsNot) (fun x y H Q => y = .non ∧ Q (.bl (!decide (x = .non))) H) := by
  intro pins s σ H x y v u Q I rx ry h
  obtain ⟨rfl, q⟩ := h
  cases ry
  refine isnot_none_gen (fin_bl I q ?_)
  cases x <;> first
    | (cases rx; rfl)
    | (obtain ⟨t, rfl⟩ := rx; rfl)

theorem op_notin_str : OpR X (compareOp .NotIn) (fun x y H Q => ∃ i j, x = .str i ∧ y = .str j ∧ Q (.bl (!(!(Builtin.Str.occurrences j i 0 j.length 1).isEmpty))) H) := by
  intro pins s σ H x y v u Q I rx ry h
  obtain ⟨i, j, rfl, rfl, q⟩ := h
  obtain ⟨t, rfl⟩ := rx
  obtain ⟨t', rfl⟩ := ry
  exact notIn_str (fin_bl I q rfl)
/-- is, is not of two objects that are tracked lists or instances -/
def isObj : HO → Bool
  | .lst _ => true
  | .ins _ _ _ => true
  | _ => false
theorem obj_there {pins : List (Addr × Obj)} {s : Shared} {σ : St} {H : Hp} {a : Addr} {o : HO} (I : Inv X pins σ H s) (h : H a = some o) (p : isObj o = true) : ∃ ob, s.heap.get? a = some ob ∧ ob.cls ≠ .type "tuple" := by
  cases o with
  | lst xs =>
    obtain ⟨_, its, n, _, e⟩ : xs.length ≤ sizeLine ∧ ∃ (its : List Value) (n : Nat), Vals xs its ∧ s.heap.get? a = some { cls := .type "list", data := .seq its.toArray n } := I.hok a _ h
    exact ⟨_, e, (by show Value.type "list" ≠ .type "tuple"; decide +kernel)⟩
  | ins C dx fs =>
    have x := I.hok a _ h
    obtain ⟨_, _, _, e, _⟩ := x
    exact ⟨_, e, (by show Value.ref C ≠ .type "tuple"; exact fun z => by cases z)⟩
  | _ => exact absurd (show false = true from p) Bool.false_ne_true
theorem op_is_ref : OpR X (compareOp .Is) (fun x y H Q => ∃ a b oa ob, x = .ref a ∧ y = .ref b ∧ H a = some oa ∧ isObj oa = true ∧ H b = some ob ∧ isObj ob = true ∧ Q (.bl (decide (a = b))) H) := by
  intro pins s σ H x y v u Q I rx ry h
  obtain ⟨a, b, oa, ob, rfl, rfl, ha, pa, hb, pb, q⟩ := h
  cases rx
  cases ry
  obtain ⟨o1, e1, n1⟩ := obj_there I ha pa
  obtain ⟨o2, e2, _⟩ := obj_there I hb pb
  by_cases z : a = b
  · subst z
    exact wpAny_is_ref_self (fin_bl I q (by simp))
  · exact wpAny_is_ref_other z e1 e2 n1 (fin_bl I q (by simp [z]))
theorem op_isnot_ref : OpR X (compareOp .IsNot) (fun x y H Q => ∃ a b oa ob, x = .ref a ∧ y = .ref b ∧ H a = some oa ∧ isObj oa = true ∧ H b = some ob ∧ isObj ob = true ∧ Q (.bl (!decide (a = b))) H) := by
  intro pins s σ H x y v u Q I rx ry h
  obtain ⟨a, b, oa, ob, rfl, rfl, ha, pa, hb, pb, q⟩ := h
  cases rx
  cases ry
  obtain ⟨o1, e1, n1⟩ := obj_there I ha pa
  obtain ⟨o2, e2, _⟩ := obj_there I hb pb
  by_cases z : a = b
  · subst z
    exact wpAny_isNot_ref_self (fin_bl I q (by simp))
  · exact wpAny_isNot_ref_other z e1 e2 n1 (fin_bl I q (by simp [z]))

/-- two rules for one operation: by cases -/
theorem OpR.or {f : Value → Value → Sem Value} {r r' : R2} (h : OpR X f r) (h' : OpR X f r') : OpR X f (fun x y H Q => r x y H Q ∨ r' x y H Q) := by
  intro pins s σ H x y v u Q I rx ry q
  rcases q with q | q
  · exact h pins s σ H x y v u Q I rx ry q
  · exact h' pins s σ H x y v u Q I rx ry q

theorem nomark (b : Expr) {op : CmpOp} (h : op ≠ .In := by decide) (h2 : op ≠ .NotIn := by decide) : behindInMarks op b = false := by
  have e1 : (op == CmpOp.In) = false := by cases op <;> first | rfl | exact absurd rfl h
  have e2 : (op == CmpOp.NotIn) = false := by cases op <;> first | rfl | exact absurd rfl h2
  cases b <;> simp [behindInMarks, e1, e2]
/-- a comparison as a value; hm: nomark b, or (for in, not in) by with_unfolding_all rfl -/
theorem pe_cmpR {op : CmpOp} {r : R2} (ho : OpR X (compareOp op) r) (ha : PE X a ta) (hb : PE X b tb) (hm : behindInMarks op b = false) : PE X (.Compare a [op] [b] pos) (tOp r ta tb) := by
  intro pins s σ H Q I h
  exact wpAny_Compare1 (binT ha hb I h fun v u s2 x y H2 I2 rx ry q => ho pins s2 σ H2 x y v u Q I2 rx ry q) hm
/-- a reading of a value as a test -/
def tTest (t : TE) : TT := fun σ H Q => t σ H fun x H' => ∃ k, x = .bl k ∧ Q k H'
theorem pt_cmpR {op : CmpOp} {r : R2} (ho : OpR X (compareOp op) r) (ha : PE X a ta) (hb : PE X b tb) (hm : behindInMarks op b = false) : PT X (.Compare a [op] [b] pos) (tTest (tOp r ta tb)) := by
  intro pins s σ H Q I h
  refine wpAny_isTrue_Compare1 (thn (ha pins s σ H _ I h) fun v s1 ⟨x, H1, I1, r1, q1⟩ => thn (hb pins s1 σ H1 _ I1 q1) fun u s2 ⟨y, H2, I2, r2, q2⟩ =>
    thn (ho pins s2 σ H2 x y v u _ I2 r1 r2 q2) fun c s3 ⟨z, H3, I3, r3, k, e, q3⟩ => ?_) hm
  subst e
  cases r3
  exact wpAny_truthy_bool ⟨H3, I3, q3⟩
/-- a op1 b op2 c -/
def tChain (r r' : R2) (ta tb tc : TE) : TE := fun σ H Q => ta σ H fun x H1 => tb σ H1 fun y H2 => r x y H2 fun z H3 => ∃ k, z = .bl k ∧
  (if k = true then tc σ H3 fun w' H4 => r' y w' H4 Q else Q (.bl false) H3)
theorem pe_chain {op op' : CmpOp} {r r' : R2} (ho : OpR X (compareOp op) r) (ho' : OpR X (compareOp op') r') (ha : PE X a ta) (hb : PE X b tb) (hc : PE X c tc)
    (hm : lastMarks [op, op'] [b, c] = false := by with_unfolding_all rfl) : PE X (.Compare a [op, op'] [b, c] pos) (tChain r r' ta tb tc) := by
  intro pins s σ H Q I h
  refine Compare_chain (thn (ha pins s σ H _ I h) fun v s1 ⟨x, H1, I1, r1, q1⟩ => chain_link (thn (hb pins s1 σ H1 _ I1 q1) fun u s2 ⟨y, H2, I2, r2, q2⟩ =>
    thn (ho pins s2 σ H2 x y v u _ I2 r1 r2 q2) fun d s3 ⟨z, H3, I3, r3, k, e, q3⟩ => ?_)) hm
  subst e
  cases r3
  refine wpAny_truthy_bool ?_
  cases k with
  | false => exact ite_ff ⟨.bl false, H3, I3, rfl, q3⟩
  | true => exact ite_tt (chain_last (thn (hc pins s3 σ H3 _ I3 q3) fun w' s4 ⟨z', H4, I4, r4, q4⟩ => ho' pins s4 σ H4 y z' u w' Q I4 r2 r4 q4))
theorem pt_chain {op op' : CmpOp} {r r' : R2} (ho : OpR X (compareOp op) r) (ho' : OpR X (compareOp op') r') (ha : PE X a ta) (hb : PE X b tb) (hc : PE X c tc)
    (hm : lastMarks [op, op'] [b, c] = false := by with_unfolding_all rfl) : PT X (.Compare a [op, op'] [b, c] pos) (tTest (tChain r r' ta tb tc)) := by
  intro pins s σ H Q I h
  refine isTrue_chain (thn (ha pins s σ H _ I h) fun v s1 ⟨x, H1, I1, r1, q1⟩ => test_link (thn (hb pins s1 σ H1 _ I1 q1) fun u s2 ⟨y, H2, I2, r2, q2⟩ =>
    thn (ho pins s2 σ H2 x y v u _ I2 r1 r2 q2) fun d s3 ⟨z, H3, I3, r3, k, e, q3⟩ => ?_)) hm
  subst e
  cases r3
  refine wpAny_truthy_bool ?_
  cases k with
  | false =>
    obtain ⟨k', e', q'⟩ := q3
    cases e'
    exact ite_ff ⟨H3, I3, q'⟩
  | true =>
    refine ite_tt (test_last (thn (hc pins s3 σ H3 _ I3 q3) fun w' s4 ⟨z', H4, I4, r4, q4⟩ => thn (ho' pins s4 σ H4 y z' u w' _ I4 r2 r4 q4) fun d' s5 ⟨z2, H5, I5, r5, k2, e2, q5⟩ => ?_))
    subst e2
    cases r5
    exact wpAny_truthy_bool ⟨H5, I5, q5⟩

/-! ### truth -/
/-- a value's truth by the abstract heap -/
def TruV (K : PySem.W.Frag) (x : V) (H : Hp) (k : Bool) : Prop :=
  match x with
  | .non => k = false
  | .bl b => k = b
  | .int i => k = (i != 0)
  | .str y => y.length ≤ sizeLine ∧ k = ((y.length : Int) != 0)
  | .byt y => y.size ≤ sizeLine ∧ k = ((y.size : Int) != 0)
  | .ref p => (∃ xs, SqL K H p xs ∧ k = !xs.isEmpty) ∨ (∃ xs, SqT K H p xs ∧ k = !xs.isEmpty) ∨ ∃ kvs, H p = some (.dK kvs) ∧ k = !kvs.isEmpty
  | _ => False
theorem isEmpty_kv {κ : Type} {kvs : List (κ × V)} {vs : List (κ × Value)} (r : KV kvs vs) : (!vs.isEmpty) = !kvs.isEmpty := by
  cases r <;> rfl
theorem isEmpty_of {xs : List V} {its : List Value} (r : Vals xs its) : (!its.toArray.isEmpty) = !xs.isEmpty := by
  cases r <;> simp
theorem line63 : (sizeLine : Nat) < 2 ^ 63 := by rw [sizeLine_eq]; decide
theorem tru_ok : TruR X (fun x H Q => ∃ k, TruV X.K x H k ∧ Q k H) := by
  intro pins s σ H x v Q I rx h
  obtain ⟨k, e, q⟩ := h
  have hl := line63
  have hs : sizeLine = 16777216 := sizeLine_eq
  cases x with
  | non =>
    cases rx
    have e' : k = false := e
    subst e'
    exact truthy_none ⟨H, I, q⟩
  | bl b =>
    cases rx
    have e' : k = b := e
    subst e'
    exact wpAny_truthy_bool ⟨H, I, q⟩
  | int i =>
    obtain ⟨t, rfl⟩ := rx
    have e' : k = (i != 0) := e
    subst e'
    exact PySem.P.truthy_int ⟨H, I, q⟩
  | str y =>
    obtain ⟨t, rfl⟩ := rx
    obtain ⟨hy, e'⟩ : y.length ≤ sizeLine ∧ k = ((y.length : Int) != 0) := e
    subst e'
    exact PySem.P.truthy_str (by omega) ⟨H, I.tok _, q⟩
  | byt y =>
    obtain ⟨t, rfl⟩ := rx
    obtain ⟨hy, e'⟩ : y.size ≤ sizeLine ∧ k = ((y.size : Int) != 0) := e
    subst e'
    exact PySem.W.truthy_bytes (by omega) ⟨H, I.tok _, q⟩
  | ref p =>
    cases rx
    have e' : (∃ xs, SqL X.K H p xs ∧ k = !xs.isEmpty) ∨ (∃ xs, SqT X.K H p xs ∧ k = !xs.isEmpty) ∨ ∃ kvs, H p = some (.dK kvs) ∧ k = !kvs.isEmpty := e
    rcases e' with ⟨xs, hx, e'⟩ | ⟨xs, hx, e'⟩ | ⟨kvs, hx, e'⟩
    · subst e'
      obtain ⟨its, r, pl, hz⟩ := I.list hx
      have hlen := r.length
      exact wpAny_truthy_list pl.isList (by simp only [List.size_toArray]; omega) ⟨H, I.tok _, by rw [isEmpty_of r]; exact q⟩
    · subst e'
      obtain ⟨its, r, pl, hz⟩ := I.tuple hx
      have hlen := r.length
      exact truthy_tuple pl (by simp only [List.size_toArray]; omega) ⟨H, I.tok _, by rw [isEmpty_of r]; exact q⟩
    · subst e'
      obtain ⟨hz, hS, vs, r, m⟩ : kvs.length ≤ sizeLine ∧ (p == sysModules) = false ∧ ∃ vs, KV kvs vs ∧ s.heap.DictOf (mixKind X.prog X.w) p vs := I.hok p _ hx
      have hlen : kvs.length = vs.length := Paired.length r
      exact wpAny_truthy_dict hS m (by omega) ⟨H, I.tok _, by rw [isEmpty_kv r]; exact q⟩
  | _ => exact (show False from e).elim
/-- any expression whose test is its value's truth (a name, a call, a subscript, a field ..: he by fun _ => rfl) -/
theorem pt_truth (ha : PE X a ta) (he : ∀ whole, isTrue a X.env whole = (do let v ← whole; standAt a.pos; holding [v] (truthy v))) :
    PT X a (fun σ H Q => ta σ H fun x H' => ∃ k, TruV X.K x H' k ∧ Q k H') := by
  intro pins s σ H Q I h
  exact isTrue_plain (thn (ha pins s σ H _ I h) fun v s1 ⟨x, H1, I1, r1, q1⟩ => tru_ok pins s1 σ H1 x v Q I1 r1 q1) (he _)

/-! ### strs and bytes -/
theorem pe_byt {x : List UInt8} {k : Nat} : PE X (.Constant (.bytes x) k pos) (fun _ H Q => Q (.byt x.toArray) H) := fun _ _ _ H _ I h => PySem.W.Constant_bytes ⟨.byt x.toArray, H, I.tok _, ⟨_, rfl⟩, h⟩
theorem op_add_str : OpR X (binaryOp .Add) (fun x y H Q => ∃ i j, x = .str i ∧ y = .str j ∧ i.length + j.length ≤ sizeLine ∧ Q (.str (i ++ j)) H) := by
  intro pins s σ H x y v u Q I rx ry h
  obtain ⟨i, j, rfl, rfl, hz, q⟩ := h
  obtain ⟨t, rfl⟩ := rx
  obtain ⟨t', rfl⟩ := ry
  exact add_str (fun t' tk => ⟨.str (i ++ j), H, I.tok _, ⟨_, rfl⟩, q⟩) hz
theorem iop_add_str : OpR X (inplaceOp .Add) (fun x y H Q => ∃ i j, x = .str i ∧ y = .str j ∧ i.length + j.length ≤ sizeLine ∧ Q (.str (i ++ j)) H) := by
  intro pins s σ H x y v u Q I rx ry h
  obtain ⟨i, j, rfl, rfl, hz, q⟩ := h
  obtain ⟨t, rfl⟩ := rx
  obtain ⟨t', rfl⟩ := ry
  exact iadd_str (fun t' tk => ⟨.str (i ++ j), H, I.tok _, ⟨_, rfl⟩, q⟩) hz
theorem op_add_byt : OpR X (binaryOp .Add) (fun x y H Q => ∃ i j, x = .byt i ∧ y = .byt j ∧ i.size + j.size ≤ 16777216 ∧ Q (.byt (i ++ j)) H) := by
  intro pins s σ H x y v u Q I rx ry h
  obtain ⟨i, j, rfl, rfl, hz, q⟩ := h
  obtain ⟨t, rfl⟩ := rx
  obtain ⟨t', rfl⟩ := ry
  exact PySem.W.KBy.add_bytes hz (fun t' tk => ⟨.byt (i ++ j), H, I.tok _, ⟨_, rfl⟩, q⟩)

def PlainIxT (b : Expr) : Prop := ∀ o i, subscripted b false o i = operate [o, i] (getItem o i)
/-- s[i], 0 ≤ i < len -/
theorem pe_item_str (ha : PE X a ta) (hb : PE X b tb) (hs : PlainIxT b) :
    PE X (.Subscript a b pos) (tOp (fun x y H Q => ∃ z i c, x = .str z ∧ y = .int i ∧ 0 ≤ i ∧ i < 2 ^ 63 ∧ i < z.length ∧ z.cps[i.toNat]? = some c ∧ Q (.str ⟨#[c]⟩) H) ta tb) := by
  intro pins s σ H Q I h
  refine Subscript_ (binT ha hb I h fun v u s2 x y H2 I2 rx ry q => ?_)
  obtain ⟨z, i, c, rfl, rfl, h0, h63, h1, hc, q⟩ := q
  obtain ⟨t, rfl⟩ := rx
  obtain ⟨t', rfl⟩ := ry
  have e : seqIndex? i z.length = some i.toNat := PySem.StrLaws.seqIndex_nonneg h0 h1
  exact tail_any (typeIs_str s2 z t) slot_str_getitem.lookup (getItem_str (c := c) (by
    have e1 : decide (i < -(2 ^ 63 : Int)) = false := decide_eq_false (by omega)
    have e2 : decide (i ≥ 2 ^ 63) = false := decide_eq_false (by omega)
    rw [e1, e2] <;> rfl) (by rw [e]; exact hc) ⟨.str ⟨#[c]⟩, H2, I2.tok _, ⟨_, rfl⟩, q⟩) (hs _ _)
/-- b[i], 0 ≤ i < len -/
theorem pe_item_byt (ha : PE X a ta) (hb : PE X b tb) (hs : PlainIxT b) :
    PE X (.Subscript a b pos) (tOp (fun x y H Q => ∃ (z : List UInt8) (i : Int), x = .byt z.toArray ∧ y = .int i ∧ z.length ≤ sizeLine ∧ 0 ≤ i ∧ i < z.length ∧ Q (.int ((z.getD i.toNat 0).toNat : Nat)) H) ta tb) := by
  intro pins s σ H Q I h
  refine Subscript_ (binT ha hb I h fun v u s2 x y H2 I2 rx ry q => ?_)
  obtain ⟨z, i, rfl, rfl, hz, h0, h1, q⟩ := q
  obtain ⟨t, rfl⟩ := rx
  obtain ⟨t', rfl⟩ := ry
  have hl : sizeLine = 16777216 := sizeLine_eq
  exact tail_any (PySem.W.typeIs_bytes s2 z.toArray t) PySem.W.FB.slot_bytes_getitem.lookup (PySem.W.getItem_bytes (by omega) h0 h1 ⟨.int ((z.getD i.toNat 0).toNat : Nat), H2, I2.tok _, ⟨_, rfl⟩, q⟩) (hs _ _)

/-! ### scalar builtins, by CallR -/
theorem vals1 {x : V} {us : List Value} (r : Vals [x] us) : ∃ u, us = [u] ∧ RelV x u := by
  cases r with
  | cons r1 r2 => cases r2; exact ⟨_, rfl, r1⟩
theorem vals2 {x y : V} {us : List Value} (r : Vals [x, y] us) : ∃ u w', us = [u, w'] ∧ RelV x u ∧ RelV y w' := by
  cases r with
  | cons r1 r2 =>
    cases r2 with
    | cons r3 r4 => cases r4; exact ⟨_, _, rfl, r1, r3⟩
theorem call_abs : CallR X (.builtin "abs") (fun xs H Q => ∃ i, xs = [.int i] ∧ Q (.int (if i < 0 then -i else i)) H) := by
  intro pins s σ H xs us Q I r h
  obtain ⟨i, rfl, q⟩ := h
  obtain ⟨u, rfl, t, rfl⟩ := vals1 r
  exact call_abs_int fun u tk => ⟨.int (if i < 0 then -i else i), H, I.tok _, ⟨_, rfl⟩, q⟩
theorem call_max2 (hc : X.calm = true) : CallR X (.builtin "max") (fun xs H Q => ∃ i j, xs = [.int i, .int j] ∧ Q (.int (if j > i then j else i)) H) := by
  intro pins s σ H xs us Q I r h
  obtain ⟨i, j, rfl, q⟩ := h
  obtain ⟨u, w', rfl, ⟨t, rfl⟩, ⟨t', rfl⟩⟩ := vals2 r
  refine max_two_ints (I.ok.hd hc) fun h' tk k => ⟨_, H, I.kept k, ?_, q⟩
  by_cases hj : j > i
  · rw [if_pos hj, if_pos hj]; exact ⟨_, rfl⟩
  · rw [if_neg hj, if_neg hj]; exact ⟨_, rfl⟩
theorem call_min2 (hc : X.calm = true) : CallR X (.builtin "min") (fun xs H Q => ∃ i j, xs = [.int i, .int j] ∧ Q (.int (if j < i then j else i)) H) := by
  intro pins s σ H xs us Q I r h
  obtain ⟨i, j, rfl, q⟩ := h
  obtain ⟨u, w', rfl, ⟨t, rfl⟩, ⟨t', rfl⟩⟩ := vals2 r
  refine min_two_ints (I.ok.hd hc) fun h' tk k => ⟨_, H, I.kept k, ?_, q⟩
  by_cases hj : j < i
  · rw [if_pos hj, if_pos hj]; exact ⟨_, rfl⟩
  · rw [if_neg hj, if_neg hj]; exact ⟨_, rfl⟩
theorem call_int1 : CallR X (.type "int") (fun xs H Q => (∃ i, xs = [.int i] ∧ Q (.int i) H) ∨ ∃ k, xs = [.bl k] ∧ Q (.int (if k then 1 else 0)) H) := by
  intro pins s σ H xs us Q I r h
  rcases h with ⟨i, rfl, q⟩ | ⟨k, rfl, q⟩
  · obtain ⟨u, rfl, t, rfl⟩ := vals1 r
    exact call_int_int ⟨.int i, H, I, ⟨_, rfl⟩, q⟩
  · obtain ⟨u, rfl, r1⟩ := vals1 r
    cases r1
    exact call_int_bool ⟨.int (if k then 1 else 0), H, I.tok _, ⟨_, rfl⟩, q⟩
theorem call_bool1 : CallR X (.type "bool") (fun xs H Q => (∃ i, xs = [.int i] ∧ Q (.bl (i != 0)) H) ∨ ∃ k, xs = [.bl k] ∧ Q (.bl k) H) := by
  intro pins s σ H xs us Q I r h
  rcases h with ⟨i, rfl, q⟩ | ⟨k, rfl, q⟩
  · obtain ⟨u, rfl, t, rfl⟩ := vals1 r
    exact call_bool_int ⟨.bl (i != 0), H, I, rfl, q⟩
  · obtain ⟨u, rfl, r1⟩ := vals1 r
    cases r1
    exact call_bool_bool ⟨.bl k, H, I, rfl, q⟩
theorem call_str_int : CallR X (.type "str") (fun xs H Q => ∃ i, xs = [.int i] ∧ i.natAbs.log2 < 1920 ∧ Q (.str (toString i)) H) := by
  intro pins s σ H xs us Q I r h
  obtain ⟨i, rfl, hz, q⟩ := h
  obtain ⟨u, rfl, t, rfl⟩ := vals1 r
  exact PySem.P.str_of_int hz ⟨.str _, H, I.tok _, ⟨_, rfl⟩, q⟩
theorem call_ord : CallR X (.builtin "ord") (fun xs H Q => ∃ x, xs = [.str x] ∧ x.length = 1 ∧ Q (.int (x.cps.getD 0 0 : Nat)) H) := by
  intro pins s σ H xs us Q I r h
  obtain ⟨x, rfl, hz, q⟩ := h
  obtain ⟨u, rfl, t, rfl⟩ := vals1 r
  exact ord_of_one hz ⟨.int _, H, I.tok _, ⟨_, rfl⟩, q⟩
theorem call_chr : CallR X (.builtin "chr") (fun xs H Q => ∃ i, xs = [.int i] ∧ 0 ≤ i ∧ i ≤ 1114111 ∧ Q (.str ⟨#[i.toNat]⟩) H) := by
  intro pins s σ H xs us Q I r h
  obtain ⟨i, rfl, h0, h1, q⟩ := h
  obtain ⟨u, rfl, t, rfl⟩ := vals1 r
  exact chr_of_range h0 h1 ⟨.str _, H, I.tok _, ⟨_, rfl⟩, q⟩
/-- len of a str, a bytes, a list, a tuple -/
def LenV (K : PySem.W.Frag) (x : V) (H : Hp) (n : Nat) : Prop :=
  match x with
  | .str y => y.length ≤ sizeLine ∧ n = y.length
  | .byt y => y.size ≤ sizeLine ∧ n = y.size
  | .ref p => (∃ xs, SqL K H p xs ∧ n = xs.length) ∨ ∃ xs, SqT K H p xs ∧ n = xs.length
  | _ => False
theorem call_len : CallR X (.builtin "len") (fun xs H Q => ∃ x n, xs = [x] ∧ LenV X.K x H n ∧ Q (.int n) H) := by
  intro pins s σ H xs us Q I r h
  obtain ⟨x, n, rfl, e, q⟩ := h
  obtain ⟨u, rfl, rx⟩ := vals1 r
  have hl := line63
  have hs : sizeLine = 16777216 := sizeLine_eq
  cases x with
  | str y =>
    obtain ⟨t, rfl⟩ := rx
    obtain ⟨hy, e'⟩ : y.length ≤ sizeLine ∧ n = y.length := e
    subst e'
    exact len_str (by omega) ⟨.int _, H, I.tok _, ⟨_, rfl⟩, q⟩
  | byt y =>
    obtain ⟨t, rfl⟩ := rx
    obtain ⟨hy, e'⟩ : y.size ≤ sizeLine ∧ n = y.size := e
    subst e'
    exact PySem.W.len_bytes (by omega) ⟨.int _, H, I.tok _, ⟨_, rfl⟩, q⟩
  | ref p =>
    cases rx
    have e' : (∃ xs, SqL X.K H p xs ∧ n = xs.length) ∨ ∃ xs, SqT X.K H p xs ∧ n = xs.length := e
    rcases e' with ⟨xs, hx, e'⟩ | ⟨xs, hx, e'⟩
    · subst e'
      obtain ⟨its, r', pl, hz⟩ := I.list hx
      have hlen := r'.length
      exact Calls.call_len_list pl.isList (by simp only [List.size_toArray]; omega) ⟨.int xs.length, H, I.tok _, ⟨_, by simp only [List.size_toArray]; rw [hlen]⟩, q⟩
    · subst e'
      obtain ⟨its, r', pl, hz⟩ := I.tuple hx
      have hlen := r'.length
      exact len_tuple pl (by simp only [List.size_toArray]; omega) ⟨.int xs.length, H, I.tok _, ⟨_, by simp only [List.size_toArray]; rw [hlen]⟩, q⟩
  | _ => exact (show False from e).elim
/-- divmod: a new tuple -/
theorem call_divmod : CallR X (.builtin "divmod") (fun xs H Q => ∃ i j, xs = [.int i, .int j] ∧ CDiv i j ∧ ∀ p, H p = none → Q (.ref p) (upd H p (.tup [.int (i / j), .int (i % j)]))) := by
  intro pins s σ H xs us Q I r h
  obtain ⟨i, j, rfl, ⟨h1, h2⟩, q⟩ := h
  obtain ⟨u, w', rfl, ⟨t, rfl⟩, ⟨t', rfl⟩⟩ := vals2 r
  refine divmod_int (by omega) ?_ (.inl (PyProof.noPylong_small (by omega)))
  rw [Int.fdiv_eq_ediv_of_nonneg i (by omega), Int.fmod_eq_emod_of_nonneg i (by omega)]
  have hn : H s.heap.objs.size = none := I.hok.fresh (Nat.le_refl _)
  refine ⟨.ref s.heap.objs.size, _, ?_, rfl, q _ hn⟩
  refine I.laid (fun b o e => Heap.get?_push_of_some _ e) (Nat.le_refl _) ⟨by simp only [List.length_cons, List.length_nil]; rw [sizeLine_eq]; decide, [.int (i / j) s.toks, .int (i % j) (s.toks + 1)], .cons ⟨_, rfl⟩ (.cons ⟨_, rfl⟩ .nil), ?_⟩
  exact ⟨_, Heap.get?_push_size s.heap rfl, rfl, 0, rfl⟩
end
end L2

namespace L2
open PySem PySem.Spec PyProof.Rows

/-! ### an instance, its attributes a map -/
structure ObjM (h : Heap) (x dx C : Addr) (mA : Str → Option Value) : Prop where
  obj : h.get? x = some (PySem.W.instObj C dx)
  ns : h.Ns1 dx mA
  ne : dx ≠ x

theorem lookIn_ns {h : Heap} {dx : Addr} {mA : Str → Option Value} (n : h.Ns1 dx mA) : ∃ od, h.get? dx = some od ∧ ∀ name, PySem.W.lookIn name od = some (mA name) := by
  obtain ⟨o, es, ep, ho, hd, hk, _, hm⟩ := n
  refine ⟨o, ho, fun name => ?_⟩
  have e := hm name
  unfold nsFind findBy at e
  rw [← Array.find?_toList] at e
  unfold PySem.W.lookIn
  rw [hd]
  dsimp only
  split
  · rename_i y q
    rw [q] at e
    exact congrArg some e
  · rename_i q
    rw [q] at e
    have a : es.toList.any (·.refKey) = false := by
      rw [List.any_eq_false]
      intro y hy
      obtain ⟨z, t, hkey⟩ := hk y (Array.mem_toList_iff.mp hy)
      simp [DictEntry.refKey, hkey]
    have a' : ¬ es.toList.any (·.refKey) = true := by rw [a]; exact Bool.false_ne_true
    rw [if_neg a']
    exact congrArg some e

theorem ObjM.look {h : Heap} {x dx C : Addr} {mA : Str → Option Value} (I : ObjM h x dx C mA) : ∃ od, PySem.W.InstAt h x (PySem.W.instObj C dx) C (some od) ∧ ∀ name, PySem.W.lookIn name od = some (mA name) :=
  let ⟨od, ho, hl⟩ := lookIn_ns I.ns
  ⟨od, ⟨I.obj, rfl, rfl, ho⟩, hl⟩

section
variable {prog : Program} {w : World} {A : Around} {E : Value → Shared → Prop} {s : Shared} {K : PySem.W.Frag} {x dx C f : Addr} {mA : Str → Option Value} {name : Str} {v : Value}

theorem get_map {expr : Bool} {Q : Value → Shared → Prop} (X : K.In s.heap) (I : ObjM s.heap x dx C mA) (hg : PySem.W.plainGet K C name = true) (hh : PySem.W.hasDictIn K C = true)
    (ha : PySem.W.findIn K (.ref C) name = some none) (hv : mA name = some v) (hv' : PySem.W.handedIn v = true) (h : Q v { s with toks := s.toks + 1 }) :
    wpAny (model prog w) A (getAttr (.ref x) name expr) Q E s := by
  obtain ⟨od, J, hl⟩ := I.look
  exact PySem.W.get_value X J (PySem.W.plainGet_of hg).1 (PySem.W.findObj_own hh ha rfl (by rw [hl, hv])) hv' h

theorem get_const {expr : Bool} {a : Value} {Q : Value → Shared → Prop} (X : K.In s.heap) (I : ObjM s.heap x dx C mA) (hg : PySem.W.plainGet K C name = true) (hh : PySem.W.hasDictIn K C = true)
    (ha : PySem.W.findIn K (.ref C) name = some (some a)) (hn : PySem.W.specialIn K a "__get__" = some none) (hc : PySem.W.copiedNames.contains name = false) (hv : mA name = none) (hv' : PySem.W.handedIn a = true)
    (h : Q a { s with toks := s.toks + 1 }) : wpAny (model prog w) A (getAttr (.ref x) name expr) Q E s := by
  obtain ⟨od, J, hl⟩ := I.look
  exact PySem.W.get_value X J (PySem.W.plainGet_of hg).1 (PySem.W.findObj_cls hh ha hn hv' hc (by rw [hl, hv])) hv' h

theorem get_meth {pl : Sem Bool} {Q : Value × List Value → Shared → Prop} (X : K.In s.heap) (I : ObjM s.heap x dx C mA) (hg : PySem.W.plainGet K C name = true)
    (hf : PySem.W.findIn K (.ref C) name = some (some (.ref f))) (ht : PySem.W.isFn K (.ref f) = true) (hv : mA name = none) (h : Q (.ref f, [.ref x]) s) :
    wpAny (model prog w) A (getMethod (.ref x) name pl) Q E s := by
  obtain ⟨od, J, hl⟩ := I.look
  exact PySem.W.method_fn X J (PySem.W.plainGet_of hg).1 (PySem.W.plainGet_of hg).2 hf (beq_iff_eq.mp ht) (by show (PySem.W.lookIn name od).map (·.isSome) = some false; rw [hl, hv]; rfl) h

theorem set_map {ns : List Str} {Q : Unit → Shared → Prop} (X : K.In s.heap) (I : ObjM s.heap x dx C mA)
    (hs : PySem.W.findIn K (.ref C) "__setattr__" = some (some (.builtin "object.__setattr__"))) (hp : PySem.W.plainOver K C = true) (ht : PySem.W.takerIn K C name = some none) (hh : PySem.W.hasDictIn K C = true)
    (hw : PySem.Within mA ns) (hsz : ns.length ≤ sizeLine)
    (h : ∀ h', ObjM h' x dx C (fun y => if y = name then some v else mA y) → Heap.SameBut dx s.heap h' → Q () { s with heap := h', toks := s.toks + 2 }) :
    wpAny (model prog w) A (setAttr (.ref x) name v) Q E s := by
  obtain ⟨od, J, hl⟩ := I.look
  refine PySem.W.set_plain X J hs (PySem.W.osa_open (s := { s with toks := s.toks + 1 }) (r := none) X J hp ht fun b => ?_)
  obtain ⟨cd, hc, hd'⟩ := PySem.W.any_some hh
  have hx : s.heap.get? x = some ⟨.ref C, some dx, .plain, #[]⟩ := I.obj
  refine wpAny_bind (wpAny_pure (wpAny_bind (wpAny_bind (wpAny_loadPart hx (wpAny_bind (PySem.W.Looks.here (s := { s with toks := s.toks + 1 }) (PySem.W.looks_clsIn X hc) ?_))))))
  rw [hd']
  refine wpAny_pure (a := some dx) (wpAny_bind (wpAny_pure (wpAny_bind ?_)))
  refine wpAny_nsSet1 (s := { s with toks := s.toks + 1 }) I.ns fun h' hn2 hs2 => ?_
  obtain ⟨oD, esD, epD, hoD, hdD, hcD⟩ := hn2.count (PySem.Within.cons name v hw)
  refine wpAny_bind (wpAny_lookBehind hoD (by rw [hdD]; exact pastItsLine_dict (Nat.le_trans hcD (by rw [List.length_cons]; omega))) ?_)
  exact wpAny_pure (h _ ⟨(hs2.2 _ (Ne.symm I.ne)).trans I.obj, hn2, I.ne⟩ hs2)

/-- C(..): the dict at the heap's end, the instance behind it; then its __init__ -/
theorem make_map {R : Result → Shared → Prop} {vs : List Value} {kw : List (Str × Value)} (X : K.In s.heap) (hm : PySem.W.makesIn K C = true)
    (hi : PySem.W.findIn K (.ref C) "__init__" = some (some (.ref f))) (hf : PySem.W.typeIn K (.ref f) = some (.type "function"))
    (h : codeAny (model prog w) (A.under (.builtin "type.__call__" ⟨.ref C :: vs, kw⟩)) (.call (.ref f) ⟨.ref (s.heap.objs.size + 1) :: vs, kw⟩) (PySem.W.InitBack (s.heap.objs.size + 1) R)
      { s with heap := (s.heap.push PySem.W.emptyDict).push (PySem.W.instObj C s.heap.objs.size) }) :
    codeAny (model prog w) A (.call (.ref C) ⟨vs, kw⟩) R s := by
  obtain ⟨hh, g, d, t, os⟩ := s
  exact PySem.W.make_core (PySem.W.makes_of X hm) (PySem.W.looks_findIn X hi) (fun self => PySem.W.bind_fn X self hf) (.inl rfl) h
/-- C() where there is no __init__ but object's -/
theorem make_map0 {R : Result → Shared → Prop} (X : K.In s.heap) (hm : PySem.W.makesIn K C = true)
    (hi : PySem.W.findIn K (.ref C) "__init__" = some (some (.builtin "object.__init__")))
    (hb : ∀ self, PySem.W.Looks (model prog w) s.heap (bindSpecial (.builtin "object.__init__") self) (.builtin "object.__init__", [self]))
    (h : codeAny (model prog w) (A.under (.builtin "type.__call__" ⟨[.ref C], []⟩)) (.call (.builtin "object.__init__") ⟨[.ref (s.heap.objs.size + 1)], []⟩) (PySem.W.InitBack (s.heap.objs.size + 1) R)
      { s with heap := (s.heap.push PySem.W.emptyDict).push (PySem.W.instObj C s.heap.objs.size) }) :
    codeAny (model prog w) A (.call (.ref C) ⟨[], []⟩) R s := by
  obtain ⟨hh, g, d, t, os⟩ := s
  exact PySem.W.make_core (PySem.W.makes_of X hm) (PySem.W.looks_findIn X hi) hb (.inr ⟨rfl, rfl⟩) h
end

/-! ### the attributes as a list of pairs -/
def putF (f : Str) (v : V) : List (Str × V) → List (Str × V)
  | [] => [(f, v)]
  | (g, x) :: r => if g = f then (g, v) :: r else (g, x) :: putF f v r
theorem lookup_putF (f g : Str) (v : V) : ∀ fs : List (Str × V), (putF f v fs).lookup g = if g = f then some v else fs.lookup g
  | [] => by
    show List.lookup g [(f, v)] = _
    by_cases h : g = f
    · have hb : (g == f) = true := beq_iff_eq.mpr h
      simp only [List.lookup, hb, if_pos h]
    · have hb : (g == f) = false := beq_eq_false_iff_ne.mpr h
      simp only [List.lookup, hb, if_neg h]
  | (k, x) :: r => by
    have ih := lookup_putF f g v r
    rw [show putF f v ((k, x) :: r) = (if k = f then (k, v) :: r else (k, x) :: putF f v r) from rfl]
    by_cases hk : k = f
    · rw [if_pos hk]
      by_cases h : g = k
      · have hb : (g == k) = true := beq_iff_eq.mpr h
        simp only [List.lookup, hb, if_pos (h.trans hk)]
      · have hb : (g == k) = false := beq_eq_false_iff_ne.mpr h
        simp only [List.lookup, hb, if_neg (fun e : g = f => h (e.trans hk.symm))]
    · rw [if_neg hk]
      by_cases h : g = k
      · have hb : (g == k) = true := beq_iff_eq.mpr h
        simp only [List.lookup, hb, if_neg (fun e : g = f => hk (h.symm.trans e))]
      · have hb : (g == k) = false := beq_eq_false_iff_ne.mpr h
        simp only [List.lookup, hb]
        exact ih
theorem keys_putF (f : Str) (v : V) : ∀ fs : List (Str × V), f ∈ (putF f v fs).map (·.1) ∧ ∀ g, g ∈ fs.map (·.1) → g ∈ (putF f v fs).map (·.1)
  | [] => ⟨by simp [putF], fun g h => by simp at h⟩
  | (k, x) :: r => by
    obtain ⟨i1, i2⟩ := keys_putF f v r
    rw [show putF f v ((k, x) :: r) = (if k = f then (k, v) :: r else (k, x) :: putF f v r) from rfl]
    by_cases hk : k = f
    · rw [if_pos hk]
      subst hk
      exact ⟨by simp, fun g h => by simpa using h⟩
    · rw [if_neg hk]
      refine ⟨?_, fun g h => ?_⟩
      · rw [List.map_cons]
        exact List.mem_cons_of_mem _ i1
      · rw [List.map_cons] at h ⊢
        rcases List.mem_cons.mp h with e | e
        · exact List.mem_cons.mpr (.inl e)
        · exact List.mem_cons_of_mem _ (i2 g e)
theorem length_putF (f : Str) (v : V) : ∀ fs : List (Str × V), (putF f v fs).length ≤ fs.length + 1
  | [] => by simp [putF]
  | (k, x) :: r => by
    have ih := length_putF f v r
    rw [show putF f v ((k, x) :: r) = (if k = f then (k, v) :: r else (k, x) :: putF f v r) from rfl]
    by_cases hk : k = f
    · rw [if_pos hk, List.length_cons, List.length_cons]; omega
    · rw [if_neg hk, List.length_cons, List.length_cons]; omega

theorem RelO.some_of {v : V} {o : Option Value} (r : RelO (some v) o) : ∃ u, o = some u ∧ RelV v u := by
  cases o with
  | none => exact (show False from r).elim
  | some u => exact ⟨u, rfl, r⟩
theorem RelO.none_of {o : Option Value} (r : RelO none o) : o = none := by
  cases o with
  | none => rfl
  | some u => exact (show False from r).elim
theorem handed_of {v : V} {u : Value} (r : RelV v u) : PySem.W.handedIn u = true := by
  cases v with
  | non => cases (show u = Value.none from r); rfl
  | bl b => cases (show u = Value.bool b from r); rfl
  | int i => obtain ⟨t, e⟩ := (show ∃ t, u = Value.int i t from r); cases e; rfl
  | str x => obtain ⟨t, e⟩ := (show ∃ t, u = Value.str x t from r); cases e; rfl
  | byt b => obtain ⟨t, e⟩ := (show ∃ t, u = Value.bytes b t from r); cases e; rfl
  | flt b => obtain ⟨t, e⟩ := (show ∃ t, u = Value.float b t from r); cases e; rfl
  | ref a => cases (show u = Value.ref a from r); rfl
  | ty n => cases (show u = Value.type n from r); rfl

section
variable {P : Program} {w : World} {H H' : Hp} {h h' : Heap} {a C dx : Addr} {fs fs' : List (Str × V)}
theorem ins_get (hok : HOk P w H h) (e : H a = some (.ins C dx fs)) : ∃ mA, ObjM h a dx C mA ∧ (∀ f, RelO (fs.lookup f) (mA f)) ∧ PySem.Within mA (fs.map (·.1)) ∧ fs.length ≤ 1000 ∧ H dx = some (.own a) := by
  obtain ⟨d, z, ne, ob, mA, n, r, q⟩ := (show ObjOk P w H h a (.ins C dx fs) from hok a _ e)
  exact ⟨mA, ⟨ob, n, ne⟩, r, q, z, d⟩
end

/-! ### what of the text a class must have -/
structure Cls (K : PySem.W.Frag) (C : Addr) : Prop where
  pg : PySem.W.plainGet K C Str.empty = true
  hd : PySem.W.hasDictIn K C = true
  po : PySem.W.plainOver K C = true
  sa : PySem.W.findIn K (.ref C) "__setattr__" = some (some (.builtin "object.__setattr__"))
theorem Cls.get {K : PySem.W.Frag} {C : Addr} (c : Cls K C) (f : Str) : PySem.W.plainGet K C f = true := c.pg
/-- no class of it has the name -/
def NoAttr (K : PySem.W.Frag) (C : Addr) (f : Str) : Prop := PySem.W.findIn K (.ref C) f = some none
theorem NoAttr.taker {K : PySem.W.Frag} {C : Addr} {f : Str} (n : NoAttr K C f) : PySem.W.takerIn K C f = some none := by
  unfold PySem.W.takerIn
  rw [show PySem.W.findIn K (.ref C) f = some none from n]
  rfl
/-- a constant of the class -/
structure Con (K : PySem.W.Frag) (C : Addr) (f : Str) (v : V) (u : Value) : Prop where
  at_ : PySem.W.findIn K (.ref C) f = some (some u)
  rel : RelV v u
  get : PySem.W.specialIn K u "__get__" = some none
  cp : PySem.W.copiedNames.contains f = false
/-- a method: a plain def of the class or of one above it -/
structure Meth (K : PySem.W.Frag) (C : Addr) (m : Str) (f : Addr) : Prop where
  at_ : PySem.W.findIn K (.ref C) m = some (some (.ref f))
  fn : PySem.W.isFn K (.ref f) = true
  kp : PySem.W.keepIn K (.ref f) = true

section
variable {X : Cx} {pins : List (Addr × Obj)} {σ : St} {H : Hp} {s : Shared} {a C dx : Addr} {fs : List (Str × V)} {f : Str} {v : V} {A : Around} {E : Value → Shared → Prop}

theorem getattr_ok {b : Bool} {Q : Value → Shared → Prop} (I : Inv X pins σ H s) (e : H a = some (.ins C dx fs)) (c : Cls X.K C) (n : NoAttr X.K C f) (l : fs.lookup f = some v)
    (h : ∀ u s', Inv X pins σ H s' → RelV v u → Q u s') : wpAny (model X.prog X.w) A (getAttr (.ref a) f b) Q E s := by
  obtain ⟨mA, O, r, _, _, _⟩ := ins_get I.hok e
  obtain ⟨u, hu, ru⟩ := RelO.some_of (v := v) (o := mA f) (by rw [← l]; exact r f)
  exact get_map I.kIn O (c.get f) c.hd n hu (handed_of ru) (h u _ (I.tok _) ru)

theorem getcon_ok {b : Bool} {u : Value} {Q : Value → Shared → Prop} (I : Inv X pins σ H s) (e : H a = some (.ins C dx fs)) (c : Cls X.K C) (k : Con X.K C f v u) (l : fs.lookup f = none)
    (h : ∀ s', Inv X pins σ H s' → Q u s') : wpAny (model X.prog X.w) A (getAttr (.ref a) f b) Q E s := by
  obtain ⟨mA, O, r, _, _, _⟩ := ins_get I.hok e
  have hn : mA f = none := RelO.none_of (by rw [← l]; exact r f)
  exact get_const I.kIn O (c.get f) c.hd k.at_ k.get k.cp hn (handed_of k.rel) (h _ (I.tok _))

theorem getmeth_ok {m : Str} {g : Addr} {pl : Sem Bool} {Q : Value × List Value → Shared → Prop} (I : Inv X pins σ H s) (e : H a = some (.ins C dx fs)) (c : Cls X.K C) (k : Meth X.K C m g) (l : fs.lookup m = none)
    (h : Q (.ref g, [.ref a]) s) : wpAny (model X.prog X.w) A (getMethod (.ref a) m pl) Q E s := by
  obtain ⟨mA, O, r, _, _, _⟩ := ins_get I.hok e
  have hn : mA m = none := RelO.none_of (by rw [← l]; exact r m)
  exact get_meth I.kIn O (c.get m) k.at_ k.fn hn h

theorem setattr_ok {y : V} {u : Value} {Q : Unit → Shared → Prop} (I : Inv X pins σ H s) (e : H a = some (.ins C dx fs)) (c : Cls X.K C) (n : NoAttr X.K C f) (hl : fs.length < 1000) (ry : RelV y u)
    (h : ∀ s', Inv X pins σ (upd H a (.ins C dx (putF f y fs))) s' → Q () s') : wpAny (model X.prog X.w) A (setAttr (.ref a) f u) Q E s := by
  obtain ⟨mA, O, r, wi, _, ho⟩ := ins_get I.hok e
  have hz : (fs.map (·.1)).length ≤ sizeLine := by rw [List.length_map, sizeLine_eq]; omega
  refine set_map I.kIn O c.sa c.po n.taker c.hd wi hz fun h' O' sb => h _ ?_
  have hd : ∃ o, h'.get? dx = some o := let ⟨o, _, _, e', _⟩ := O'.ns; ⟨o, e'⟩
  refine I.write (x := a) (e := dx) (by rw [e]; exact True.intro) (.inr ho) (fun b q hb z => (sb.2 b hb).trans z) hd ?_
  refine ⟨by rw [upd_ne O.ne]; exact ho, ?_, O.ne, O'.obj, _, O'.ns, fun g => ?_, fun g hg => ?_⟩
  · have := length_putF f y fs; omega
  · show RelO ((putF f y fs).lookup g) (if g = f then some u else mA g)
    rw [lookup_putF]
    by_cases q : g = f
    · rw [if_pos q, if_pos q]; exact ry
    · rw [if_neg q, if_neg q]; exact r g
  · by_cases q : g = f
    · rw [q]; exact (keys_putF f y fs).1
    · refine (keys_putF f y fs).2 g (wi g fun z => hg ?_)
      show (if g = f then some u else mA g) = none
      rw [if_neg q]; exact z

/-- a new instance, tracked, without attributes -/
theorem Inv.made (I : Inv X pins σ H s) : Inv X pins σ (upd (upd H s.heap.objs.size (.own (s.heap.objs.size + 1))) (s.heap.objs.size + 1) (.ins C s.heap.objs.size []))
    { s with heap := (s.heap.push PySem.W.emptyDict).push (PySem.W.instObj C s.heap.objs.size) } := by
  have e1 : (s.heap.push PySem.W.emptyDict).get? s.heap.objs.size = some PySem.W.emptyDict := Heap.get?_push_size s.heap rfl
  have e2 : ((s.heap.push PySem.W.emptyDict).push (PySem.W.instObj C s.heap.objs.size)).get? (s.heap.objs.size + 1) = some (PySem.W.instObj C s.heap.objs.size) := by
    have := Heap.get?_push_size (s.heap.push PySem.W.emptyDict) (o := PySem.W.instObj C s.heap.objs.size) rfl
    rwa [Heap.size_push] at this
  have e3 : (s.heap.push PySem.W.emptyDict).Ns s.heap.objs.size (fun _ => none) := ⟨PySem.W.emptyDict, #[], _, e1, rfl, (fun e he => absurd he (by simp)), fun _ => rfl⟩
  have I1 := I.laid (a := s.heap.objs.size) (o := .own (s.heap.objs.size + 1)) (h' := s.heap.push PySem.W.emptyDict) (t' := s.toks) (fun b u q => Heap.get?_push_of_some _ q) (Nat.le_refl _) ⟨_, e1⟩
  refine I1.laid (a := s.heap.objs.size + 1) (o := .ins C s.heap.objs.size []) (t' := s.toks) (fun b u q => Heap.get?_push_of_some _ q) (Nat.le_of_eq (Heap.size_push _ _)) ?_
  have ne : s.heap.objs.size ≠ s.heap.objs.size + 1 := Nat.ne_of_lt (Nat.lt_succ_self _)
  refine ⟨by rw [upd_ne ne, upd_same], Nat.zero_le _, ne, e2, fun _ => none, (Heap.Ns1.of_empty e3).at fun o q => Heap.get?_push_of_some _ q, fun _ => True.intro, fun y hy => absurd rfl hy⟩

/-- e.f where nothing but the object is asked: through attributeBase (super) and the last hold -/
theorem attr_of {prog : Program} {w : World} {env : Env} {e : Expr} {f : Str} {pos : Pos} {s : Shared} {Q : Value → Shared → Prop} (hb : attributeBase e f env (eval e env) = eval e env)
    (h : wpAny (model prog w) A (eval e env) (fun o s₁ => wpAny (model prog w) A (getAttr o f true) Q E s₁) E s) : wpAny (model prog w) A (eval (.Attribute e f pos) env) Q E s :=
  Attribute_any_ h (by rw [arm_eval_Attribute, hb])
end

/-! ### readings and rules -/
/-- e.f, an attribute of the instance -/
def tFld (K : PySem.W.Frag) (ta : TE) (f : Str) : TE := fun σ H Q => ta σ H fun x H1 => ∃ a C dx fs v, x = .ref a ∧ H1 a = some (.ins C dx fs) ∧ Cls K C ∧ NoAttr K C f ∧ fs.lookup f = some v ∧ Q v H1
/-- e.f, a constant of the class -/
def tCon (K : PySem.W.Frag) (ta : TE) (f : Str) : TE := fun σ H Q => ta σ H fun x H1 => ∃ a C dx fs v u, x = .ref a ∧ H1 a = some (.ins C dx fs) ∧ Cls K C ∧ Con K C f v u ∧ fs.lookup f = none ∧ Q v H1
/-- e.f = value -/
def sFld (K : PySem.W.Frag) (ta tv : TE) (f : Str) : TS := fun D σ H => tv σ H fun y H1 => ta σ H1 fun x H2 => ∃ a C dx fs, x = .ref a ∧ H2 a = some (.ins C dx fs) ∧ Cls K C ∧ NoAttr K C f ∧ fs.length < 1000 ∧
  D.nx σ (upd H2 a (.ins C dx (putF f y fs)))
/-- an augmented operator on two values -/
def InOp (X : Cx) (op : Operator) (rd : V → V → Hp → VK → Prop) : Prop :=
  ∀ (pins : List (Addr × Obj)) (s : Shared) (σ : St) (H : Hp) (x y : V) (u v : Value) (Q : VK), Inv X pins σ H s → RelV x u → RelV y v → rd x y H Q → wpAny (model X.prog X.w) X.A (inplaceOp op u v) (EP X pins σ Q) X.xe s
/-- e.f op= value -/
def sFldAug (K : PySem.W.Frag) (ta tv : TE) (rd : V → V → Hp → VK → Prop) (f : Str) : TS := fun D σ H => ta σ H fun x H1 => ∃ a C dx fs v, x = .ref a ∧ H1 a = some (.ins C dx fs) ∧ Cls K C ∧ NoAttr K C f ∧ fs.lookup f = some v ∧
  tv σ H1 fun y H2 => rd v y H2 fun z H3 => ∃ dx' fs', H3 a = some (.ins C dx' fs') ∧ fs'.length < 1000 ∧ D.nx σ (upd H3 a (.ins C dx' (putF f z fs')))

section
variable {X : Cx} {o e value : Expr} {f : Str} {pos pos' tpos : Pos} {ta tv : TE}
theorem pe_fld (he : PE X e ta) (hb : attributeBase e f X.env (eval e X.env) = eval e X.env) : PE X (.Attribute e f pos) (tFld X.K ta f) := by
  intro pins s σ H Q I h
  refine attr_of hb (thn (he pins s σ H _ I h) fun u s1 ⟨x, H1, I1, rx, a, C, dx, fs, v, ex, ea, c, n, l, q⟩ => ?_)
  subst ex
  obtain rfl : u = Value.ref a := rx
  exact getattr_ok I1 ea c n l fun u' s2 I2 ru => ⟨v, H1, I2, ru, q⟩
theorem pe_con (he : PE X e ta) (hb : attributeBase e f X.env (eval e X.env) = eval e X.env) : PE X (.Attribute e f pos) (tCon X.K ta f) := by
  intro pins s σ H Q I h
  refine attr_of hb (thn (he pins s σ H _ I h) fun u s1 ⟨x, H1, I1, rx, a, C, dx, fs, v, u0, ex, ea, c, k, l, q⟩ => ?_)
  subst ex
  obtain rfl : u = Value.ref a := rx
  exact getcon_ok I1 ea c k l fun s2 I2 => ⟨v, H1, I2, k.rel, q⟩
theorem ps_fld (ha : PE X o ta) (hv : PE X value tv) (hs : swapsWith value (some (.Attribute o f pos')) pos.line X.env = pure false) : PS X (.Assign [.Attribute o f pos'] value pos) (sFld X.K ta tv f) := by
  intro pins s σ H D I h
  refine plainObj_wpAny_Assign_Attribute (thn (hv pins s σ H _ I h) fun u s1 ⟨y, H1, I1, ry, q⟩ => thn (ha pins s1 σ H1 _ I1 q) fun ov s2 ⟨x, H2, I2, rx, a, C, dx, fs, ex, ea, c, n, l, q2⟩ => ?_) hs
  subst ex
  obtain rfl : ov = Value.ref a := rx
  exact setattr_ok I2 ea c n l ry fun s3 I3 => ⟨σ, _, I3, q2⟩
theorem ps_fldaug {op : Operator} {rd : V → V → Hp → VK → Prop} (ha : PE X o ta) (hv : PE X value tv) (hop : InOp X op rd) : PS X (.AugAssign (.Attribute o f tpos) op value pos) (sFldAug X.K ta tv rd f) := by
  intro pins s σ H D I h
  refine wpAny_AugAssign_AttributeAny (thn (ha pins s σ H _ I h) fun ov s1 ⟨x, H1, I1, rx, a, C, dx, fs, v, ex, ea, c, n, l, q⟩ => ?_)
  subst ex
  obtain rfl : ov = Value.ref a := rx
  refine getattr_ok I1 ea c n l fun u s2 I2 ru => thn (hv pins s2 σ H1 _ I2 q) fun w3 s3 ⟨y, H2, I3, ry, q3⟩ => thn (hop pins s3 σ H2 v y u w3 _ I3 ru ry q3) fun w4 s4 ⟨z, H3, I4, rz, dx', fs', ea', l', q4⟩ => ?_
  exact setattr_ok I4 ea' c n l' rz fun s5 I5 => ⟨σ, _, I5, q4⟩
def rAdd : V → V → Hp → VK → Prop := fun x y H Q => ∃ i j, x = .int i ∧ y = .int j ∧ Q (.int (i + j)) H
def rSub : V → V → Hp → VK → Prop := fun x y H Q => ∃ i j, x = .int i ∧ y = .int j ∧ Q (.int (i - j)) H
theorem in_add : InOp X .Add rAdd := by
  rintro pins s σ H x y u v Q I rx ry ⟨i, j, rfl, rfl, q⟩
  obtain ⟨t, rfl⟩ := (show ∃ t, u = Value.int i t from rx)
  obtain ⟨t', rfl⟩ := (show ∃ t', v = Value.int j t' from ry)
  exact PyProof.Rows.iadd_int ⟨.int (i + j), H, I.tok _, ⟨_, rfl⟩, q⟩
theorem in_sub : InOp X .Sub rSub := by
  rintro pins s σ H x y u v Q I rx ry ⟨i, j, rfl, rfl, q⟩
  obtain ⟨t, rfl⟩ := (show ∃ t, u = Value.int i t from rx)
  obtain ⟨t', rfl⟩ := (show ∃ t', v = Value.int j t' from ry)
  exact PyProof.Rows.isub_int ⟨.int (i - j), H, I.tok _, ⟨_, rfl⟩, q⟩

/-- what is between an instance and its method: the tree of a method call -/
theorem methcall_of {pl : Sem Bool} {m : Str} {apos : Pos} {args : List Expr} {pins : List (Addr × Obj)} {s : Shared} {σ : St} {H : Hp} {Q : Value → Shared → Prop} {te : TE} (he : PE X e te) (I : Inv X pins σ H s)
    (h : te σ H fun x H1 => ∃ a C dx fs g, x = .ref a ∧ H1 a = some (.ins C dx fs) ∧ Cls X.K C ∧ Meth X.K C m g ∧ fs.lookup m = none ∧
      ∀ s1, Inv X pins σ H1 s1 → wpAny (model X.prog X.w) X.A (callWith pos (.ref g) [.ref a] (backTo pos (starEach args X.env)) (backToKw pos (keywordEach [] X.env))) Q X.xe s1)
    (ht : eval (.Call (.Attribute e m apos) args [] pos) X.env = (do
      let ov ← eval e X.env
      standAt apos.atName
      let (f, first) ← holding [ov] (getMethod ov m pl)
      callWith pos f first (backTo pos (starEach args X.env)) (backToKw pos (keywordEach [] X.env)))) :
    wpAny (model X.prog X.w) X.A (eval (.Call (.Attribute e m apos) args [] pos) X.env) Q X.xe s := by
  refine PySem.W.methodCall_KW (pl := pl) (thn (he pins s σ H _ I h) fun u s1 ⟨x, H1, I1, rx, a, C, dx, fs, g, ex, ea, c, k, l, q⟩ => ?_) ht
  subst ex
  obtain rfl : u = Value.ref a := rx
  exact getmeth_ok I1 ea c k l (q s1 I1)
end

/-! ### isinstance -/
section
variable {X : Cx} {pins : List (Addr × Obj)} {σ : St} {H : Hp} {s : Shared} {A : Around} {E : Value → Shared → Prop} {Q : Value → Shared → Prop} {c : Value} {b : Bool}
/-- the type of a value, as the fragment's deciders take it; for an instance its class -/
inductive TyOf (K : PySem.W.Frag) (H : Hp) : V → Value → Prop where
  | non : TyOf K H .non (.type "NoneType")
  | bl (x : Bool) : TyOf K H (.bl x) (.type "bool")
  | int (i : Int) : TyOf K H (.int i) (.type "int")
  | str (x : Str) : TyOf K H (.str x) (.type "str")
  | flt (x : UInt64) : TyOf K H (.flt x) (.type "float")
  | lst {a : Addr} {xs : List V} (e : H a = some (.lst xs)) : TyOf K H (.ref a) (.type "list")
  | frz {a : Addr} {o : Obj} {xs : List V} (e : H a = some (.frz o (.lst xs))) : TyOf K H (.ref a) (.type "list")
  | tup {a : Addr} {xs : List V} (e : H a = some (.tup xs)) : TyOf K H (.ref a) (.type "tuple")
  | dK {a : Addr} {kvs : List (Key × V)} (e : H a = some (.dK kvs)) : TyOf K H (.ref a) (.type "dict")
  | dT {a : Addr} {kvs : List (List Key × V)} (e : H a = some (.dT kvs)) : TyOf K H (.ref a) (.type "dict")
  | ins {a C dx : Addr} {fs : List (Str × V)} (e : H a = some (.ins C dx fs)) (cl : Cls K C) (ha : PySem.W.findIn K (.ref C) "__class__" = some (some (.builtin "object.__class__")))
      (hn : PySem.W.specialIn K (.builtin "object.__class__") "__get__" = some (some (.builtin "getset_descriptor.__get__"))) (htk : PySem.W.takesIn K (.builtin "object.__class__") = some true)
      (hm : PySem.W.mroIn K C (.type "object") = some true) : TyOf K H (.ref a) (.ref C)
/-- isinstance(x, c) for one class c, a built-in or an own one: kitOne's answer -/
theorem isinst_ok {x : V} {u t : Value} (I : Inv X pins σ H s) (rx : RelV x u) (ty : TyOf X.K H x t) (e : PySem.W.kitOne X.K t c = some b) (h : ∀ tk, Q (.bool b) { s with toks := tk }) :
    wpAny (model X.prog X.w) A (call (.builtin "isinstance") [u, c]) Q E s := by
  cases ty with
  | non => cases (show u = Value.none from rx); exact PySem.W.kia_one PySem.W.kitx_none I.kIn True.intro e (fun z => nomatch z) h
  | bl y => cases (show u = Value.bool y from rx); exact PySem.W.kia_one PySem.W.kitx_bool I.kIn True.intro e (fun z => nomatch z) h
  | int i => obtain ⟨t, q⟩ := (show ∃ t, u = Value.int i t from rx); cases q; exact PySem.W.kia_one PySem.W.kitx_int I.kIn True.intro e (fun z => nomatch z) h
  | str y => obtain ⟨t, q⟩ := (show ∃ t, u = Value.str y t from rx); cases q; exact PySem.W.kia_one PySem.W.kitx_str I.kIn True.intro e (fun z => nomatch z) h
  | flt y => obtain ⟨t, q⟩ := (show ∃ t, u = Value.float y t from rx); cases q; exact PySem.W.kia_one PySem.W.kitx_float I.kIn True.intro e (fun z => nomatch z) h
  | @lst a xs ea =>
    cases (show u = Value.ref a from rx)
    obtain ⟨_, _, n, _, h1⟩ := (show ObjOk X.prog X.w H s.heap a (.lst xs) from I.hok a _ ea)
    exact PySem.W.kia_one PySem.W.kitx_list I.kIn ⟨_, h1, rfl⟩ e (fun z => nomatch z) h
  | @frz a ob xs ea =>
    cases (show u = Value.ref a from rx)
    obtain ⟨_, _, _, n, _, h1⟩ := (show ObjOk X.prog X.w H s.heap a (.frz ob (.lst xs)) from I.hok a _ ea)
    exact PySem.W.kia_one PySem.W.kitx_list I.kIn ⟨_, h1, rfl⟩ e (fun z => nomatch z) h
  | @tup a xs ea =>
    cases (show u = Value.ref a from rx)
    obtain ⟨_, _, _, p⟩ := (show ObjOk X.prog X.w H s.heap a (.tup xs) from I.hok a _ ea)
    obtain ⟨o, h1, h2, _⟩ := p
    exact PySem.W.kia_one PySem.W.kitx_tuple I.kIn ⟨o, h1, h2⟩ e (fun z => nomatch z) h
  | @dK a kvs ea =>
    cases (show u = Value.ref a from rx)
    obtain ⟨_, _, vs, _, p⟩ := (show ObjOk X.prog X.w H s.heap a (.dK kvs) from I.hok a _ ea)
    obtain ⟨o, es, ep, h1, h2, _⟩ := p
    exact PySem.W.kia_one PySem.W.kitx_dict I.kIn ⟨o, h1, h2.1⟩ e (fun z => nomatch z) h
  | @dT a kvs ea =>
    cases (show u = Value.ref a from rx)
    obtain ⟨_, _, xs, _, o, es, ep, h1, h2, _⟩ := (show ObjOk X.prog X.w H s.heap a (.dT kvs) from I.hok a _ ea)
    exact PySem.W.kia_one PySem.W.kitx_dict I.kIn ⟨o, h1, h2.1⟩ e (fun z => nomatch z) h
  | @ins a C dx fs ea cl ha hn htk hm =>
    cases (show u = Value.ref a from rx)
    obtain ⟨mA, O, _⟩ := ins_get I.hok ea
    obtain ⟨od, J, _⟩ := O.look
    exact PySem.W.kia_one (PySem.W.kitx_own (cl.get _) cl.hd ha hn htk hm) I.kIn J e (fun z => nomatch z) h
end
end L2

namespace L2
open PySem PySem.Spec PyProof.Rows

/-! ### room -/
structure Room (k : Nat) (A : Around) : Prop where
  hd : A.handled = none
  dp : A.depth + 3 * k + 5 < recursionLimit
  un : A.units + 16 * k + 200 < cLine
theorem Room.mono {j k : Nat} {A : Around} (r : Room k A) (h : j ≤ k) : Room j A := ⟨r.hd, by have := r.dp; omega, by have := r.un; omega⟩
theorem Room.deeper {k : Nat} {A : Around} (r : Room (k + 1) A) (env : Env) : Room k (A.deeper env) :=
  ⟨r.hd, by have := r.dp; show A.depth + 1 + 3 * k + 5 < _; omega, by have := r.un; show A.units + 3 + 16 * k + 200 < _; omega⟩
theorem Room.in1 {k : Nat} {A : Around} (r : Room (k + 1) A) : Room k A.in1 :=
  ⟨r.hd, by have := r.dp; show A.depth + 3 * k + 5 < _; omega, by have := r.un; show A.units + 1 + 16 * k + 200 < _; omega⟩
theorem make_depth {A : Around} {C : Addr} {us : List Value} {kw : List (Str × Value)} : (A.under (.builtin "type.__call__" ⟨.ref C :: us, kw⟩)).depth = A.depth + 1 := by
  first | rfl | simp [Around.under, Code.weight, Code.isCreation, Code.isGuard, Code.isCaller, Code.frames, Code.isFrame, guardIds]
theorem make_units {A : Around} {C : Addr} {us : List Value} {kw : List (Str × Value)} : (A.under (.builtin "type.__call__" ⟨.ref C :: us, kw⟩)).units = A.units + 1 := by
  first | rfl | simp [Around.under, Code.cUnits, Code.frames, Code.isFrame]
theorem Room.make {k : Nat} {A : Around} (r : Room (k + 1) A) (C : Addr) (us : List Value) (kw : List (Str × Value)) : Room k (A.under (.builtin "type.__call__" ⟨.ref C :: us, kw⟩)) :=
  ⟨r.hd, by have := r.dp; rw [make_depth]; omega, by have := r.un; rw [make_units]; omega⟩
theorem Room.depth {k : Nat} {A : Around} (r : Room k A) : A.depth < recursionLimit := by have := r.dp; omega
theorem Room.units {k : Nat} {A : Around} (r : Room k A) : A.units + 64 < cLine := by have := r.un; omega
theorem Room.units0 {k : Nat} {A : Around} (r : Room k A) : A.units < cLine := by have := r.un; omega

/-! ### argument lists and displays -/
def tNil : TA := fun _ H Q => Q [] H
def tCons (ta : TE) (tr : TA) : TA := fun σ H Q => ta σ H fun x H1 => tr σ H1 fun xs H2 => Q (x :: xs) H2
section
variable {X : Cx} {e : Expr} {es : List Expr} {te : TE} {t : TA} {pos : Pos}
theorem pa_nil : PA X [] tNil := fun _ _ _ _ H Q I h => Calls.spliced_nil ⟨[], H, I, .nil, h⟩
theorem pa_cons (ha : PE X e te) (hr : PA X es t) (hs : starEach (e :: es) X.env = (false, eval e X.env) :: starEach es X.env := by rfl) : PA X (e :: es) (tCons te t) := by
  intro pos pins s σ H Q I h
  rw [hs]
  show wpAny _ _ (spliced ((false, eval e X.env) :: backTo pos (starEach es X.env))) _ _ s
  refine Calls.spliced_cons (thn (ha pins s σ H _ I h) fun u s1 ⟨x, H1, I1, r1, q1⟩ => ?_)
  exact thn (hr pos pins s1 σ H1 _ I1 q1) fun us s2 ⟨xs, H2, I2, r2, q2⟩ => ⟨x :: xs, H2, I2, .cons r1 r2, q2⟩

/-- a tuple, a list of written items -/
def tTup (t : TA) : TE := fun σ H Q => t σ H fun xs H1 => xs.length ≤ sizeLine ∧ ∀ p, H1 p = none → Q (.ref p) (upd H1 p (.tup xs))
def tLst (t : TA) : TE := fun σ H Q => t σ H fun xs H1 => xs.length ≤ sizeLine ∧ ∀ p, H1 p = none → Q (.ref p) (upd H1 p (.lst xs))
theorem pe_tup {x1} (h : PA X es t) : PE X (.Tuple es x1 pos) (tTup t) := by
  intro pins s σ H Q I hq
  refine wpAny_Tuple_spliced (thn (h pos pins s σ H _ I hq) fun us s1 ⟨xs, H1, I1, r, z, q⟩ => ⟨by rw [← r.length]; exact z, ?_⟩)
  have hf : H1 s1.heap.objs.size = none := I1.hok.fresh (Nat.le_refl _)
  refine ⟨.ref s1.heap.objs.size, upd H1 s1.heap.objs.size (.tup xs), I1.laid (t' := s1.toks) (fun b u e => Heap.get?_push_of_some _ e) (Nat.le_refl _) ?_, rfl, q _ hf⟩
  exact ⟨z, us, r, ⟨_, Heap.get?_push_size _ rfl, rfl, _, rfl⟩⟩
theorem pe_lst (h : PA X es t) : PE X (.List es pos) (tLst t) := by
  intro pins s σ H Q I hq
  refine wpAny_List_spliced (thn (h pos pins s σ H _ I hq) fun us s1 ⟨xs, H1, I1, r, z, q⟩ => ⟨by rw [← r.length]; exact z, ?_⟩)
  have hf : H1 s1.heap.objs.size = none := I1.hok.fresh (Nat.le_refl _)
  refine ⟨.ref s1.heap.objs.size, upd H1 s1.heap.objs.size (.lst xs), I1.laid (t' := s1.toks) (fun b u e => Heap.get?_push_of_some _ e) (Nat.le_refl _) ?_, rfl, q _ hf⟩
  exact ⟨z, us, 0, r, Heap.get?_push_size _ rfl⟩
end

/-! ### what a def promises -/
/-- a def's promise: the bound arguments in the parameters' order, the heap, the wanted end, the wanted exception -/
abbrev Sp := List V → Hp → VK → XK → Prop
/-- how an exception lies behind a call (file 08 gives it): the callers' frames, abstract heap and state ahead of the call, the wish, the exception, the state -/
abbrev CXT := List Env → Hp → Shared → XK → Value → Shared → Prop

/-- the state at a call -/
structure Env0 (P : Program) (w : World) (K : PySem.W.Frag) (mg : Str → Option Value) (base : Heap) (A : Around) (outer : List Env) (s : Shared) (H : Hp) : Prop where
  frames : A.frames = some outer
  mod : Mod K mg base
  bs : ∀ b o, base.get? b = some o → s.heap.get? b = some o ∧ H b = none
  bsz : base.objs.size ≤ s.heap.objs.size
  funs : s.heap.FunFrames base outer
  frf : ∀ b ∈ frs outer, H b = none
  hok : HOk P w H s.heap
  bare : AllBare s.gens
/-- a call's end -/
def CE (outer : List Env) (P : Program) (w : World) (H : Hp) (s : Shared) (Q : VK) (u : Value) (s' : Shared) : Prop :=
  ∃ v H', s'.os = s.os ∧ AllBare s'.gens ∧ Un (frs outer) [] H H' s.heap s'.heap ∧ HOk P w H' s'.heap ∧ RelV v u ∧ Q v H'
def CR (CX : CXT) (outer : List Env) (P : Program) (w : World) (H : Hp) (s : Shared) (Q : VK) (E : XK) (r : Result) (s' : Shared) : Prop :=
  match r with
  | .ok (.ret u) => CE outer P w H s Q u s'
  | .ok _ => False
  | .error e => CX outer H s E e s'
structure FnOk (P : Program) (w : World) (K : PySem.W.Frag) (mg : Str → Option Value) (base : Heap) (CX : CXT) (k : Nat) (f : Addr) (fd : FuncData) (ps : List Str) (sp : Sp) : Prop where
  len : ∀ vs H Q E, sp vs H Q E → vs.length = ps.length
  run : ∀ (A : Around) (outer : List Env) (s : Shared) (H : Hp) (args : Args) (us : List Value) (vs : List V) (Q : VK) (E : XK), Room k A → Env0 P w K mg base A outer s H → BindsTo s fd args (ps.zip us) → Vals vs us → sp vs H Q E →
    codeAny (model P w) A (.call (.ref f) args) (CR CX outer P w H s Q E) s
theorem FnOk.mono {P : Program} {w : World} {K : PySem.W.Frag} {mg : Str → Option Value} {base : Heap} {CX : CXT} {j k : Nat} {f : Addr} {fd : FuncData} {ps : List Str} {sp : Sp} (F : FnOk P w K mg base CX j f fd ps sp) (h : j ≤ k) :
    FnOk P w K mg base CX k f fd ps sp := ⟨F.len, fun A outer s H args us vs Q E hr => F.run A outer s H args us vs Q E (hr.mono h)⟩
/-- a weaker promise -/
theorem FnOk.imp {P : Program} {w : World} {K : PySem.W.Frag} {mg : Str → Option Value} {base : Heap} {CX : CXT} {k : Nat} {f : Addr} {fd : FuncData} {ps : List Str} {sp sp' : Sp} (F : FnOk P w K mg base CX k f fd ps sp)
    (h : ∀ vs H Q E, sp' vs H Q E → sp vs H Q E) : FnOk P w K mg base CX k f fd ps sp' :=
  ⟨fun vs H Q E q => F.len vs H Q E (h _ _ _ _ q), fun A outer s H args us vs Q E hr he hb hv hs => F.run A outer s H args us vs Q E hr he hb hv (h _ _ _ _ hs)⟩

theorem Env0.make {P : Program} {w : World} {K : PySem.W.Frag} {mg : Str → Option Value} {base : Heap} {A : Around} {outer : List Env} {s : Shared} {H : Hp} (e : Env0 P w K mg base A outer s H) (C : Addr) (us : List Value) (kw : List (Str × Value)) :
    Env0 P w K mg base (A.under (.builtin "type.__call__" ⟨.ref C :: us, kw⟩)) outer s H := ⟨by first | exact e.frames | (simpa [Around.under, Code.envs, Code.isFrame, pushEnvs] using e.frames), e.mod, e.bs, e.bsz, e.funs, e.frf, e.hok, e.bare⟩
theorem Env0.in1 {P : Program} {w : World} {K : PySem.W.Frag} {mg : Str → Option Value} {base : Heap} {A : Around} {outer : List Env} {s : Shared} {H : Hp} (e : Env0 P w K mg base A outer s H) :
    Env0 P w K mg base A.in1 outer s H := ⟨e.frames, e.mod, e.bs, e.bsz, e.funs, e.frf, e.hok, e.bare⟩

section
variable {X : Cx} {pins : List (Addr × Obj)} {σ : St} {H : Hp} {s s' : Shared}
/-- from a body: what a callee wants -/
theorem Inv.env0 (I : Inv X pins σ H s) : Env0 X.prog X.w X.K X.mg X.base X.A X.stack s H :=
  ⟨I.ok.frames, I.ok.mod, I.bs, Nat.le_trans I.ok.bsz I.sz, I.stack, I.stkFree, I.hok, I.bare⟩
/-- behind a call -/
theorem Inv.after {Q : VK} {u : Value} (I : Inv X pins σ H s) (h : CE X.stack X.prog X.w H s Q u s') : EP X pins σ Q u s' := by
  obtain ⟨v, H', os, bare, un, hok, r, q⟩ := h
  obtain ⟨hh, g, d, t, os'⟩ := s'
  obtain rfl : os' = s.os := os
  exact ⟨v, H', I.call (h' := hh) (g' := g) (d' := d) (t' := t) (ch := []) un hok bare (fun b z => absurd z (by simp)), r, q⟩
end

/-! ### calls -/
/-- f(..): the written arguments, then the defaults dvs; E: what is wanted of an exception -/
def tCall (sp : Sp) (dvs : List V) (E : XK) (t : TA) : TE := fun σ H Q => t σ H fun vs H1 => sp (vs ++ dvs) H1 Q E
/-- o.m(..) of an instance of the class at C -/
def tMeth (C : Addr) (m : Str) (sp : Sp) (dvs : List V) (E : XK) (ta : TE) (t : TA) : TE := fun σ H Q => ta σ H fun x H1 => ∃ a dx fs, x = .ref a ∧ H1 a = some (.ins C dx fs) ∧ fs.lookup m = none ∧
  t σ H1 fun vs H2 => sp (x :: (vs ++ dvs)) H2 Q E
/-- C(..): a new instance and its dict, then __init__ -/
def tMake (C : Addr) (sp : Sp) (dvs : List V) (E : XK) (t : TA) : TE := fun σ H Q => t σ H fun vs H1 => ∀ x dx, H1 x = none → H1 dx = none → dx ≠ x →
  sp (.ref x :: (vs ++ dvs)) (upd (upd H1 dx (.own x)) x (.ins C dx [])) (fun v H2 => v = .non ∧ Q (.ref x) H2) E

/-- how the parameters are bound: us the positional arguments, kw the keywords' values by name, ds the defaults that fill up -/
def Binds (K : PySem.W.Frag) (fd : FuncData) (ps : List Str) (ds : List Value) : Prop :=
  ∀ (s : Shared) (us : List Value), K.In s.heap → (us ++ ds).length = ps.length → BindsTo s fd ⟨us, []⟩ (ps.zip (us ++ ds))
/-- every parameter is given -/
theorem Binds.all {K : PySem.W.Frag} {fd : FuncData} {ps : List Str} (h : ∀ us : List Value, us.length = ps.length → bindArgs fd ⟨us, []⟩ = pure (ps.zip us)) : Binds K fd ps [] := fun s us _ hl => by
  rw [List.append_nil] at hl ⊢
  exact .of_eq (h us hl)

/-- an exception of a callee reaches what this body wants of exceptions -/
def Passes (CX : CXT) (X : Cx) (E : XK) : Prop := ∀ (pins : List (Addr × Obj)) (σ : St) (H : Hp) (s : Shared) (e : Value) (s' : Shared), Inv X pins σ H s → CX X.stack H s E e s' → X.xe e s'

section
variable {X : Cx} {CX : CXT} {k : Nat} {f C : Addr} {fd : FuncData} {ps : List Str} {sp : Sp} {dvs : List V} {ds : List Value} {E : XK} {x m : Str} {p pos apos : Pos} {e o : Expr} {es : List Expr} {ta : TE} {t : TA}

/-- the callee runs -/
theorem run_fn {pins : List (Addr × Obj)} {σ : St} {H : Hp} {s : Shared} {Q : VK} {us : List Value} {vs : List V} (F : FnOk X.prog X.w X.K X.mg X.base CX k f fd ps sp) (hr : Room k X.A) (hb : Binds X.K fd ps ds) (hd : Vals dvs ds) (hx : Passes CX X E)
    (I : Inv X pins σ H s) (r : Vals vs us) (h : sp (vs ++ dvs) H Q E) : wpAny (model X.prog X.w) X.A (call (.ref f) us) (EP X pins σ Q) X.xe s := by
  have r2 : Vals (vs ++ dvs) (us ++ ds) := r.append hd
  have hl : (us ++ ds).length = ps.length := by rw [← r2.length]; exact F.len _ _ _ _ h
  refine wpAny_call (codeAny_mono (F.run X.A X.stack s H ⟨us, []⟩ (us ++ ds) (vs ++ dvs) Q E hr I.env0 (hb s us I.kIn hl) r2 h) fun r s' hq => ?_)
  cases r with
  | error e => exact hx pins σ H s e s' I hq
  | ok fl =>
    cases fl with
    | ret u => exact I.after hq
    | next => exact False.elim hq
    | brk => exact False.elim hq
    | cont => exact False.elim hq

theorem pe_call (F : FnOk X.prog X.w X.K X.mg X.base CX k f fd ps sp) (hr : Room k X.A) (hg : Gl X x) (hm : X.mg x = some (.ref f)) (hk : PySem.W.keepIn X.K (.ref f) = true) (hb : Binds X.K fd ps ds) (hd : Vals dvs ds) (hx : Passes CX X E)
    (ha : PA X (e :: es) t) (hdb : (x == ("__debug__" : Str)) = false := by decide) (he : starEach (e :: es) X.env = (false, eval e X.env) :: starEach es X.env := by rfl) (hpl : (backTo pos (starEach es X.env)).any (·.1) = false := by rfl) :
    PE X (.Call (.Name x p) (e :: es) [] pos) (tCall sp dvs E t) := by
  intro pins s σ H Q I h
  refine wpAny_Call_Name_kw (ld_glob I hg hm ?_ hdb)
  refine PySem.W.callWith_K (h₀ := X.base) I.ok.mod.kin hk (thn (ha pos pins s σ H _ I h) fun us s1 ⟨vs, H1, I1, r, q⟩ => ⟨I1.kIn, ?_⟩) he hpl
  exact run_fn F hr hb hd hx I1 r q
theorem pe_call0 (F : FnOk X.prog X.w X.K X.mg X.base CX k f fd ps sp) (hr : Room k X.A) (hg : Gl X x) (hm : X.mg x = some (.ref f)) (hk : PySem.W.keepIn X.K (.ref f) = true) (hb : Binds X.K fd ps ds) (hd : Vals dvs ds) (hx : Passes CX X E)
    (hdb : (x == ("__debug__" : Str)) = false := by decide) : PE X (.Call (.Name x p) [] [] pos) (tCall sp dvs E tNil) := by
  intro pins s σ H Q I h
  refine wpAny_Call_Name_kw (ld_glob I hg hm ?_ hdb)
  exact PySem.W.callWith_K0 I.kIn hk (run_fn (us := []) F hr hb hd hx I .nil h)

/-- o.m(e, ..) -/
theorem pe_meth {pl : Sem Bool} (he : PE X o ta) (c : Cls X.K C) (hm : Meth X.K C m f) (F : FnOk X.prog X.w X.K X.mg X.base CX k f fd ps sp) (hr : Room k X.A) (hb : Binds X.K fd ps ds) (hd : Vals dvs ds) (hx : Passes CX X E) (ha : PA X (e :: es) t)
    (hst : starEach (e :: es) X.env = (false, eval e X.env) :: starEach es X.env := by rfl) (hpl : (backTo pos (starEach es X.env)).any (·.1) = false := by rfl)
    (ht : eval (.Call (.Attribute o m apos) (e :: es) [] pos) X.env = (do
      let ov ← eval o X.env
      standAt apos.atName
      let (f, first) ← holding [ov] (getMethod ov m pl)
      callWith pos f first (backTo pos (starEach (e :: es) X.env)) (backToKw pos (keywordEach [] X.env))) := by rfl) :
    PE X (.Call (.Attribute o m apos) (e :: es) [] pos) (tMeth C m sp dvs E ta t) := by
  intro pins s σ H Q I h
  refine PySem.W.methodCall_KW (pl := pl) (thn (he pins s σ H _ I h) fun u s1 ⟨x, H1, I1, rx, a, dx, fs, ex, ea, l, q⟩ => ?_) ht
  subst ex
  obtain rfl : u = Value.ref a := rx
  refine getmeth_ok I1 ea c hm l ?_
  refine PySem.W.callWith_K (first := [.ref a]) (h₀ := X.base) I.ok.mod.kin hm.kp (thn (ha pos pins s1 σ H1 _ I1 q) fun us s2 ⟨vs, H2, I2, r, q2⟩ => ⟨I2.kIn, ?_⟩) hst hpl
  exact run_fn (us := .ref a :: us) (vs := .ref a :: vs) F hr hb hd hx I2 (.cons rfl r) q2
/-- o.m() -/
theorem pe_meth0 {pl : Sem Bool} (he : PE X o ta) (c : Cls X.K C) (hm : Meth X.K C m f) (F : FnOk X.prog X.w X.K X.mg X.base CX k f fd ps sp) (hr : Room k X.A) (hb : Binds X.K fd ps ds) (hd : Vals dvs ds) (hx : Passes CX X E)
    (ht : eval (.Call (.Attribute o m apos) [] [] pos) X.env = (do
      let ov ← eval o X.env
      standAt apos.atName
      let (f, first) ← holding [ov] (getMethod ov m pl)
      callWith pos f first (backTo pos (starEach [] X.env)) (backToKw pos (keywordEach [] X.env))) := by rfl) :
    PE X (.Call (.Attribute o m apos) [] [] pos) (tMeth C m sp dvs E ta tNil) := by
  intro pins s σ H Q I h
  refine PySem.W.methodCall_KW (pl := pl) (thn (he pins s σ H _ I h) fun u s1 ⟨x, H1, I1, rx, a, dx, fs, ex, ea, l, q⟩ => ?_) ht
  subst ex
  obtain rfl : u = Value.ref a := rx
  refine getmeth_ok I1 ea c hm l ?_
  exact PySem.W.callWith_K0 (first := [.ref a]) I1.kIn hm.kp (run_fn (us := [.ref a]) (vs := [.ref a]) F hr hb hd hx I1 (.cons rfl .nil) q)

/-- what a class must have to be made -/
structure Mk (K : PySem.W.Frag) (C f : Addr) : Prop where
  makes : PySem.W.makesIn K C = true
  init : PySem.W.findIn K (.ref C) "__init__" = some (some (.ref f))
  fn : PySem.W.isFn K (.ref f) = true
  kp : PySem.W.keepIn K (.ref C) = true

theorem run_make {pins : List (Addr × Obj)} {σ : St} {H : Hp} {s : Shared} {Q : VK} {us : List Value} {vs : List V} (M : Mk X.K C f) (F : FnOk X.prog X.w X.K X.mg X.base CX k f fd ps sp) (hr : Room (k + 1) X.A) (hb : Binds X.K fd ps ds) (hd : Vals dvs ds)
    (hx : Passes CX X E) (I : Inv X pins σ H s) (r : Vals vs us)
    (h : ∀ x dx, H x = none → H dx = none → dx ≠ x → sp (.ref x :: (vs ++ dvs)) (upd (upd H dx (.own x)) x (.ins C dx [])) (fun v H2 => v = .non ∧ Q (.ref x) H2) E) :
    wpAny (model X.prog X.w) X.A (call (.ref C) us) (EP X pins σ Q) X.xe s := by
  have hq := h (s.heap.objs.size + 1) s.heap.objs.size (I.hok.fresh (Nat.le_succ _)) (I.hok.fresh (Nat.le_refl _)) (Nat.ne_of_lt (Nat.lt_succ_self _))
  have I2 := Inv.made (C := C) I
  have r2 : Vals (V.ref (s.heap.objs.size + 1) :: (vs ++ dvs)) (Value.ref (s.heap.objs.size + 1) :: (us ++ ds)) := .cons rfl (r.append hd)
  have hl : (Value.ref (s.heap.objs.size + 1) :: us ++ ds).length = ps.length := by
    have e := r2.length
    rw [F.len _ _ _ _ hq] at e
    exact e.symm
  refine wpAny_call (make_map (f := f) I.kIn M.makes M.init (beq_iff_eq.mp M.fn) (codeAny_mono (F.run _ X.stack _ _ ⟨Value.ref (s.heap.objs.size + 1) :: us, []⟩ (Value.ref (s.heap.objs.size + 1) :: (us ++ ds)) _ _ E (hr.make C us [])
    (I2.env0.make C us []) (hb _ (Value.ref (s.heap.objs.size + 1) :: us) I2.kIn hl) r2 hq) fun r s' hq' => ?_))
  cases r with
  | error e => exact hx pins σ _ _ e s' I2 hq'
  | ok fl =>
    cases fl with
    | ret u =>
      obtain ⟨v, H', I3, rv, ev, q3⟩ := I2.after hq'
      subst ev
      exact ⟨rv, ⟨V.ref (s.heap.objs.size + 1), H', I3, rfl, q3⟩⟩
    | next => exact False.elim hq'
    | brk => exact False.elim hq'
    | cont => exact False.elim hq'
theorem pe_make (M : Mk X.K C f) (F : FnOk X.prog X.w X.K X.mg X.base CX k f fd ps sp) (hr : Room (k + 1) X.A) (hg : Gl X x) (hm : X.mg x = some (.ref C)) (hb : Binds X.K fd ps ds) (hd : Vals dvs ds) (hx : Passes CX X E)
    (ha : PA X (e :: es) t) (hdb : (x == ("__debug__" : Str)) = false := by decide) (he : starEach (e :: es) X.env = (false, eval e X.env) :: starEach es X.env := by rfl) (hpl : (backTo pos (starEach es X.env)).any (·.1) = false := by rfl) :
    PE X (.Call (.Name x p) (e :: es) [] pos) (tMake C sp dvs E t) := by
  intro pins s σ H Q I h
  refine wpAny_Call_Name_kw (ld_glob I hg hm ?_ hdb)
  refine PySem.W.callWith_K (h₀ := X.base) I.ok.mod.kin M.kp (thn (ha pos pins s σ H _ I h) fun us s1 ⟨vs, H1, I1, r, q⟩ => ⟨I1.kIn, ?_⟩) he hpl
  exact run_make M F hr hb hd hx I1 r q
theorem pe_make0 (M : Mk X.K C f) (F : FnOk X.prog X.w X.K X.mg X.base CX k f fd ps sp) (hr : Room (k + 1) X.A) (hg : Gl X x) (hm : X.mg x = some (.ref C)) (hb : Binds X.K fd ps ds) (hd : Vals dvs ds) (hx : Passes CX X E)
    (hdb : (x == ("__debug__" : Str)) = false := by decide) : PE X (.Call (.Name x p) [] [] pos) (tMake C sp dvs E tNil) := by
  intro pins s σ H Q I h
  refine wpAny_Call_Name_kw (ld_glob I hg hm ?_ hdb)
  exact PySem.W.callWith_K0 I.kIn M.kp (run_make (us := []) M F hr hb hd hx I .nil h)
end

/-! ### keywords -/
/-- the values of the keywords, from the left -/
def PK (X : Cx) (kws : List Keyword) (t : TA) : Prop :=
  ∀ (pos : Pos) (pins : List (Addr × Obj)) (s : Shared) (σ : St) (H : Hp) (Q : List V → Hp → Prop), Inv X pins σ H s → t σ H Q → wpAny (model X.prog X.w) X.A (evalAll ((backToKw pos (keywordEach kws X.env)).map (·.2))) (AP X pins σ Q) X.xe s
section
variable {X : Cx} {CX : CXT} {k : Nat} {f C : Addr} {fd : FuncData} {ps ks : List Str} {sp : Sp} {E : XK} {x m : Str} {p pos apos kpos : Pos} {e o : Expr} {es : List Expr} {kws : List Keyword} {te ta : TE} {t tk : TA} {nm : Option Str}
theorem pk_nil : PK X [] tNil := fun _ _ _ _ H Q I h => wpAny_evalAll_nil ⟨[], H, I, .nil, h⟩
theorem pk_cons (ha : PE X e te) (hr : PK X kws t) : PK X (⟨nm, e, kpos⟩ :: kws) (tCons te t) := by
  intro pos pins s σ H Q I h
  show wpAny _ _ (evalAll ((do let v ← eval e X.env; standAt pos; pure v) :: (backToKw pos (keywordEach kws X.env)).map (·.2))) _ _ s
  refine wpAny_evalAll_cons (wpAny_bind (thn (ha pins s σ H _ I h) fun u s1 ⟨x, H1, I1, r1, q1⟩ => wpAny_bind (wpAny_standAt (wpAny_pure ?_))))
  exact thn (hr pos pins s1 σ H1 _ I1 q1) fun us s2 ⟨xs, H2, I2, r2, q2⟩ => ⟨x :: xs, H2, I2, .cons r1 r2, q2⟩

/-- how a call with keywords binds: g puts the positional values us and the keywords' values ws (names ks) in the parameters' order, defaults among them -/
structure KBinds (K : PySem.W.Frag) (fd : FuncData) (ps ks : List Str) (g : List Value → List Value → List Value) (gV : List V → List V → List V) : Prop where
  to : ∀ (s : Shared) (us ws : List Value), K.In s.heap → (g us ws).length = ps.length → BindsTo s fd ⟨us, ks.zip ws⟩ (ps.zip (g us ws))
  rel : ∀ {vs : List V} {us : List Value} {zs : List V} {ws : List Value}, Vals vs us → Vals zs ws → Vals (gV vs zs) (g us ws)
def tCallK (sp : Sp) (gV : List V → List V → List V) (E : XK) (t tk : TA) : TE := fun σ H Q => t σ H fun vs H1 => tk σ H1 fun zs H2 => sp (gV vs zs) H2 Q E
variable {g : List Value → List Value → List Value} {gV : List V → List V → List V}
theorem run_fnk {pins : List (Addr × Obj)} {σ : St} {H : Hp} {s : Shared} {Q : VK} {us ws : List Value} {vs zs : List V} (F : FnOk X.prog X.w X.K X.mg X.base CX k f fd ps sp) (hr : Room k X.A) (hb : KBinds X.K fd ps ks g gV) (hx : Passes CX X E)
    (I : Inv X pins σ H s) (r : Vals vs us) (rz : Vals zs ws) (h : sp (gV vs zs) H Q E) : wpAny (model X.prog X.w) X.A (call (.ref f) us (ks.zip ws)) (EP X pins σ Q) X.xe s := by
  have r2 := hb.rel r rz
  have hl : (g us ws).length = ps.length := by rw [← r2.length]; exact F.len _ _ _ _ h
  refine wpAny_call (codeAny_mono (F.run X.A X.stack s H ⟨us, ks.zip ws⟩ (g us ws) (gV vs zs) Q E hr I.env0 (hb.to s us ws I.kIn hl) r2 h) fun r s' hq => ?_)
  cases r with
  | error e => exact hx pins σ H s e s' I hq
  | ok fl =>
    cases fl with
    | ret u => exact I.after hq
    | next => exact False.elim hq
    | brk => exact False.elim hq
    | cont => exact False.elim hq
/-- f(e, .., k = v, ..) -/
theorem pe_callK (F : FnOk X.prog X.w X.K X.mg X.base CX k f fd ps sp) (hr : Room k X.A) (hg : Gl X x) (hm : X.mg x = some (.ref f)) (hk : PySem.W.keepIn X.K (.ref f) = true) (hb : KBinds X.K fd ps ks g gV) (hx : Passes CX X E)
    (ha : PA X (e :: es) t) (hkw : PK X kws tk) (hall : (backToKw pos (keywordEach kws X.env)).all (·.1.isSome) = true := by rfl) (hks : (backToKw pos (keywordEach kws X.env)).filterMap (·.1) = ks := by rfl)
    (hdb : (x == ("__debug__" : Str)) = false := by decide) (he : starEach (e :: es) X.env = (false, eval e X.env) :: starEach es X.env := by rfl)
    (hpl : ((backTo pos (starEach (e :: es) X.env)).any (·.1) || (backToKw pos (keywordEach kws X.env)).any (·.1.isNone)) = false := by rfl) :
    PE X (.Call (.Name x p) (e :: es) kws pos) (tCallK sp gV E t tk) := by
  intro pins s σ H Q I h
  refine wpAny_Call_Name_kw (ld_glob I hg hm ?_ hdb)
  refine PySem.W.callWith_KW (h₀ := X.base) I.ok.mod.kin hk hall (thn (ha pos pins s σ H _ I h) fun us s1 ⟨vs, H1, I1, r, q⟩ => ?_) hpl he
  refine thn (hkw pos pins s1 σ H1 _ I1 q) fun ws s2 ⟨zs, H2, I2, rz, q2⟩ => ⟨I2.kIn, ?_⟩
  rw [hks]
  exact run_fnk F hr hb hx I2 r rz q2
end

/-! ### a def's body keeps its promise -/
/-- names: the parameters first -/
structure FnScope (N P : List Str) (sc : Scope) : Prop where
  kind : sc.kind = .function
  co : sc.isCoroutine = false
  gen : sc.isGenerator = false
  nd : N.Nodup
  pre : N.take P.length = P
  par : ∀ x ∈ P, sc.names.lookup x = some .local ∨ sc.names.lookup x = some .cell
  nofree : ∀ y ∈ sc.names, y.2 ≠ .free

theorem bindL_out {kindOf : Str → Option NameKind} {x : Str} : ∀ {binds : List (Str × Value)} {m : Str → Option Value}, (∀ v, (x, v) ∉ binds) → bindL kindOf binds m x = m x
  | [], _, _ => rfl
  | (n, v) :: r, m, h => by
    unfold bindL
    rw [bindL_out fun w hw => h w (List.mem_cons_of_mem _ hw)]
    split
    · have : x ≠ n := by rintro rfl; exact h v List.mem_cons_self
      simp [this]
    · rfl
theorem bindC_out {kindOf : Str → Option NameKind} {x : Str} : ∀ {binds : List (Str × Value)} {m : Str → Option Value}, (∀ v, (x, v) ∉ binds) → bindC kindOf binds m x = m x
  | [], _, _ => rfl
  | (n, v) :: r, m, h => by
    unfold bindC
    rw [bindC_out fun w hw => h w (List.mem_cons_of_mem _ hw)]
    split
    · rfl
    · have : x ≠ n := by rintro rfl; exact h v List.mem_cons_self
      simp [this]
theorem bindL_get {kindOf : Str → Option NameKind} {x : Str} {v : Value} : ∀ {P : List Str} {vs : List Value} {i : Nat} {m : Str → Option Value}, P.Nodup → P[i]? = some x → vs[i]? = some v → kindOf x = some .local →
    bindL kindOf (P.zip vs) m x = some v
  | [], _, _, _, _, h, _, _ => by simp at h
  | _ :: _, [], _, _, _, _, h, _ => by simp at h
  | p :: P, w :: vs, 0, m, nd, h1, h2, hk => by
    simp at h1 h2; subst h1; subst h2
    show bindL kindOf ((p, w) :: P.zip vs) m p = _
    unfold bindL
    rw [bindL_out fun v hv => (List.nodup_cons.mp nd).1 (List.of_mem_zip hv).1, if_pos hk]
    simp
  | p :: P, w :: vs, i + 1, m, nd, h1, h2, hk => by
    show bindL kindOf ((p, w) :: P.zip vs) m x = _
    unfold bindL
    exact bindL_get (i := i) (List.nodup_cons.mp nd).2 (by simpa using h1) (by simpa using h2) hk
theorem bindC_get {kindOf : Str → Option NameKind} {x : Str} {v : Value} : ∀ {P : List Str} {vs : List Value} {i : Nat} {m : Str → Option Value}, P.Nodup → P[i]? = some x → vs[i]? = some v → kindOf x ≠ some .local →
    bindC kindOf (P.zip vs) m x = some v
  | [], _, _, _, _, h, _, _ => by simp at h
  | _ :: _, [], _, _, _, _, h, _ => by simp at h
  | p :: P, w :: vs, 0, m, nd, h1, h2, hk => by
    simp at h1 h2; subst h1; subst h2
    show bindC kindOf ((p, w) :: P.zip vs) m p = _
    unfold bindC
    rw [bindC_out fun v hv => (List.nodup_cons.mp nd).1 (List.of_mem_zip hv).1, if_neg hk]
    simp
  | p :: P, w :: vs, i + 1, m, nd, h1, h2, hk => by
    show bindC kindOf ((p, w) :: P.zip vs) m x = _
    unfold bindC
    exact bindC_get (i := i) (List.nodup_cons.mp nd).2 (by simpa using h1) (by simpa using h2) hk

/-- the names' values at the entry -/
def start (N : List Str) (vs : List V) : St := vs.map some ++ List.replicate (N.length - vs.length) none

/-- the context of a def's body, at its entry; an exception leaves the frame, then lies as CX says -/
def cxOf (CX : CXT) (P : Program) (w : World) (K : PySem.W.Frag) (mg : Str → Option Value) (base : Heap) (N : List Str) (qual : Str) (scope : Scope) (f : Addr) (cd : Value) (A : Around) (outer : List Env) (s : Shared) (H : Hp) (E : XK) : Cx where
  prog := P
  w := w
  K := K
  mg := mg
  base := base
  A := A.deeper (envOfC qual scope s.heap.objs.size f cd)
  N := N
  s₀ := s
  H₀ := H
  env := envOfC qual scope s.heap.objs.size f cd
  outer := outer
  stack := envOfC qual scope s.heap.objs.size f cd :: outer
  ex := []
  calm := true
  fn := fun _ => true
  pn := []
  xe := fun e s' => wpAny (model P w) (A.deeper (envOfC qual scope s.heap.objs.size f cd)) (leaving (envOfC qual scope s.heap.objs.size f cd) e) (fun _ s'' => CX outer H s E e s'') (fun e' s'' => CX outer H s E e' s'') s'

theorem cell_has {sc : Scope} {n : Nat} {x : Str} (h : sc.names.lookup x = some .cell) : ∃ c, (cellsFrom n sc.names []).lookup x = some c := by
  have q := PySem.W.cellsFrom_some sc.names n [] (.inl h)
  exact Option.isSome_iff_exists.mp q

theorem inv_start {CX : CXT} {P : Program} {w : World} {K : PySem.W.Frag} {mg : Str → Option Value} {base : Heap} {N ps : List Str} {qual : Str} {scope : Scope} {f : Addr} {cd : Value} {A : Around} {outer : List Env} {s s1 : Shared} {H : Hp} {E : XK} {us : List Value} {vs : List V}
    (S : FnScope N ps scope) (hd : A.handled = none) (e0 : Env0 P w K mg base A outer s H) (hl : vs.length = ps.length) (r : Vals vs us)
    (x : InCallC s s.heap.objs.size (bindL (envOfC qual scope s.heap.objs.size f cd).kindOf (ps.zip us) fun _ => none) (cellsFrom (s.heap.objs.size + 1) scope.names []) (bindC (envOfC qual scope s.heap.objs.size f cd).kindOf (ps.zip us) fun _ => none) s1) :
    Inv (cxOf CX P w K mg base N qual scope f cd A outer s H E) [] (start N vs) H s1 := by
  have hpl : ps.length ≤ N.length := by have := congrArg List.length S.pre; rw [List.length_take] at this; omega
  obtain ⟨h1, tk, rfl, hk⟩ := x.done
  have noA : ∀ b : Addr, b ∉ (cxOf CX P w K mg base N qual scope f cd A outer s H E).ex := fun b z => absurd (show b ∈ ([] : List Addr) from z) (by simp)
  refine ⟨⟨e0.mod, S.kind, rfl, rfl, Nat.le_refl _, fun y z c h1 h2 => ?_, fun y hy => ?_, fun y c _ h => ?_, fun _ => hd, Around.frames_deeper e0.frames, .inr ⟨rfl, rfl⟩, fun b z => absurd z (noA b), e0.bs, e0.bsz, fun b _ _ => noA b, fun b z => absurd z (noA b), e0.funs, e0.frf⟩,
    rfl, e0.bare, Un.kept hk, ⟨_, x.toInCall.ns, fun i y v h1 h2 h3 => ?_⟩, fun y c h => ⟨_, x.cell y c h⟩, e0.hok.fresh (Nat.le_refl _), fun y c h => ?_, fun p hp => absurd (show p ∈ ([] : List (Addr × Obj)) from hp) (by simp), e0.hok.kept hk, ?_⟩
  · exact name_of_addr x.apart (PySem.mem_of_lookup h1) (PySem.mem_of_lookup h2)
  · have hy : scope.names.lookup y = some .cell ∨ scope.names.lookup y = some .free := hy
    rcases hy with hy | hy
    · exact cell_has hy
    · exact absurd rfl (S.nofree _ (PySem.mem_of_lookup hy))
  · exact Nat.le_of_lt (x.above y c (PySem.mem_of_lookup h))
  · have hi : i < vs.length := by
      unfold start at h2
      by_cases hi : i < vs.length
      · exact hi
      · rw [List.getElem?_append_right (by simpa using hi)] at h2
        rw [List.getElem?_replicate] at h2
        split at h2 <;> cases h2
    have ha : vs[i]? = some v := by
      unfold start at h2
      rw [List.getElem?_append_left (by simpa using hi), List.getElem?_map] at h2
      cases e : vs[i]? with
      | none => rw [e] at h2; cases h2
      | some a => rw [e] at h2; cases h2; rfl
    obtain ⟨u, hu, rv⟩ := r.get ha
    have hp : ps[i]? = some y := by
      rw [← S.pre, List.getElem?_take_of_lt (by omega)]; exact h1
    have ndP : ps.Nodup := by rw [← S.pre]; exact S.nd.sublist (List.take_sublist _ _)
    refine ⟨u, rv, ?_⟩
    rcases S.par y (List.mem_of_getElem? hp) with k | k
    · exact .inl ⟨k, bindL_get ndP hp hu k⟩
    · obtain ⟨c, e⟩ := cell_has (n := s.heap.objs.size + 1) k
      refine .inr ⟨.inl k, c, e, ?_⟩
      have q := x.cell y c e
      rw [bindC_get ndP hp hu (by show scope.names.lookup y ≠ _; rw [k]; decide)] at q
      exact q
  · exact e0.hok.fresh (Nat.le_of_lt (x.above y c (PySem.mem_of_lookup h)))
  · unfold start
    show _ = N.length
    rw [List.length_append, List.length_map, List.length_replicate]
    omega

/-- THE RULE: a def (or a method) of the text, by its body. The body's reading t is chosen for each entry; it is run at the parameters' values -/
theorem fn_of {CX : CXT} {P : Program} {w : World} {K : PySem.W.Frag} {mg : Str → Option Value} {base : Heap} {k : Nat} {f : Addr} {name qual : Str} {params : Arguments} {body : List Stmt} {scope : Scope} {dV kV doc pm cdv ct oc : Value} {an od : Option Addr}
    {osl : Array (Option Value)} {N ps : List Str} {sp : Sp} (lk : K.lookup f = some ⟨oc, od, .func (PySem.W.fnOf name qual params body scope dV kV doc pm an cdv ct), osl⟩) (hcd : PySem.W.codeIn K cdv qual = true) (S : FnScope N ps scope)
    (len : ∀ vs H Q E, sp vs H Q E → vs.length = ps.length)
    (hbody : ∀ (A : Around) (outer : List Env) (s : Shared) (H : Hp) (vs : List V) (Q : VK) (E : XK), Room k (A.deeper (envOfC qual scope s.heap.objs.size f cdv)) → sp vs H Q E →
      ∃ t, PSs (cxOf CX P w K mg base N qual scope f cdv A outer s H E) body t ∧ t { nx := fun _ H' => Q .non H', rt := Q } (start N vs) H) :
    FnOk P w K mg base CX (k + 1) f (PySem.W.fnOf name qual params body scope dV kV doc pm an cdv ct) ps sp := by
  refine ⟨len, fun A outer s H args us vs Q E hr e0 hb r hsp => ?_⟩
  have hl := len _ _ _ _ hsp
  have KX : K.In s.heap := e0.mod.kin.keeps fun b o e => (e0.bs b o e).1
  have lim : s.heap.NoLimit := e0.mod.nolimit.keeps fun b o e => (e0.bs b o e).1
  have hkind : ∀ y ∈ ps.zip us, scope.names.lookup y.1 = some .local ∨ (scope.names.lookup y.1 = some .cell ∧ ((cellsFrom (s.heap.objs.size + 1) scope.names []).lookup y.1).isSome = true) := fun ⟨n, v⟩ hy => by
    rcases S.par n (List.of_mem_zip hy).1 with q | q
    · exact .inl q
    · exact .inr ⟨q, PySem.W.cellsFrom_some _ _ _ (.inl q)⟩
  refine codeAny_call_function hr.depth (KX _ _ lk) rfl S.co S.gen rfl (PySem.W.codeRec_of KX hcd) (hb _ _ _ _ ?_)
  refine wpAny_newFunctionEnv_cells S.kind hkind fun env he s1 x => ?_
  subst he
  refine ⟨lim.keeps x.toInCall.keep, codeAny_func ?_⟩
  obtain ⟨t, ht, hq⟩ := hbody A outer s H vs Q E (hr.deeper _) hsp
  have I : Inv (cxOf CX P w K mg base N qual scope f cdv A outer s H E) [] (start N vs) H s1 := inv_start S hr.hd e0 hl r x
  refine wpAny_mono (ht [] s1 (start N vs) H _ I hq) (fun fl s' hs => ?_) fun e s' hs => hs
  have fin : ∀ {σ' : St} {H' : Hp} {v : V} {u : Value}, Inv (cxOf CX P w K mg base N qual scope f cdv A outer s H E) [] σ' H' s' → RelV v u → Q v H' → CE outer P w H s Q u s' :=
    fun {σ' H' v u} J rv q => ⟨v, H', J.os, J.bare, J.base, J.hok, rv, q⟩
  cases fl with
  | ret u =>
    obtain ⟨v, σ', H', J, rv, q⟩ := hs
    exact fin J rv q
  | next =>
    obtain ⟨σ', H', J, q⟩ := hs
    exact fin (v := V.non) (u := Value.none) J rfl q
  | brk =>
    obtain ⟨_, _, _, q⟩ := hs
    exact False.elim q
  | cont =>
    obtain ⟨_, _, _, q⟩ := hs
    exact False.elim q
end L2

namespace L2
open PySem PySem.Spec PyProof.Rows
section
variable {X : Cx} {x : Str} {p pos : Pos} {e : Expr} {es : List Expr} {t : TA} {id T : String} {r : List V → Hp → VK → Prop}

def tCB (r : List V → Hp → VK → Prop) (t : TA) : TE := fun σ H Q => t σ H fun vs H1 => r vs H1 Q
/-- f(e, ..), f a built-in function -/
theorem pe_callB (hc : CallR X (.builtin id) r) (hg : Gl X x) (hm : X.mg x = none) (hv : bootBuiltins x = some (.builtin id)) (ha : PA X (e :: es) t) (hn : x ≠ "__name__" := by decide) (hdb : (x == ("__debug__" : Str)) = false := by decide)
    (he : starEach (e :: es) X.env = (false, eval e X.env) :: starEach es X.env := by rfl) (hpl : (backTo pos (starEach es X.env)).any (·.1) = false := by rfl) : PE X (.Call (.Name x p) (e :: es) [] pos) (tCB r t) := by
  intro pins s σ H Q I h
  refine wpAny_Call_Name_kw (ld_blt I hg hm hv ?_ hn hdb)
  exact PyProof.Rows.callWith_builtin1 (thn (ha pos pins s σ H _ I h) fun us s1 ⟨vs, H1, I1, r1, q1⟩ => hc pins s1 σ H1 vs us Q I1 r1 q1) he hpl
/-- T(e, ..), T a built-in type -/
theorem pe_callTy (hc : CallR X (.type T) r) (hg : Gl X x) (hm : X.mg x = none) (hv : bootBuiltins x = some (.type T)) (ha : PA X (e :: es) t) (hn : x ≠ "__name__" := by decide) (hdb : (x == ("__debug__" : Str)) = false := by decide)
    (he : starEach (e :: es) X.env = (false, eval e X.env) :: starEach es X.env := by rfl) (hpl : (backTo pos (starEach es X.env)).any (·.1) = false := by rfl) : PE X (.Call (.Name x p) (e :: es) [] pos) (tCB r t) := by
  intro pins s σ H Q I h
  refine wpAny_Call_Name_kw (ld_blt I hg hm hv ?_ hn hdb)
  exact PyProof.Rows.callWith_type1 (thn (ha pos pins s σ H _ I h) fun us s1 ⟨vs, H1, I1, r1, q1⟩ => hc pins s1 σ H1 vs us Q I1 r1 q1) he hpl
/-- T() -/
theorem pe_callTy0 (hc : CallR X (.type T) r) (hg : Gl X x) (hm : X.mg x = none) (hv : bootBuiltins x = some (.type T)) (hn : x ≠ "__name__" := by decide) (hdb : (x == ("__debug__" : Str)) = false := by decide) :
    PE X (.Call (.Name x p) [] [] pos) (tCB r tNil) := by
  intro pins s σ H Q I h
  refine wpAny_Call_Name_kw (ld_blt I hg hm hv ?_ hn hdb)
  exact PyProof.Rows.callWith_type0 (hc pins s σ H [] [] Q I .nil h)
end
end L2

namespace HT
open PySem PyProof.Rows

/-- t < u of tuples of ints -/
def lexLt : List Int → List Int → Bool
  | [], [] => false
  | [], _ :: _ => true
  | _ :: _, [] => false
  | x :: xs, y :: ys => if x = y then lexLt xs ys else decide (x < y)
theorem lexLt_cons (x y : Int) (xs ys : List Int) : lexLt (x :: xs) (y :: ys) = if x = y then lexLt xs ys else decide (x < y) := rfl
theorem lexLt_nil_nil : lexLt [] [] = false := rfl
theorem lexLt_nil_cons (y : Int) (ys : List Int) : lexLt [] (y :: ys) = true := rfl
theorem lexLt_cons_nil (x : Int) (xs : List Int) : lexLt (x :: xs) [] = false := rfl

theorem eqAt_int (A : Around) (s : Shared) (a : Int) (t : Tok) (c : Int) (u : Tok) : ∃ e, SeqAt.EqAt A s (.int a t) (.int c u) e ∧ (e = true ↔ a = c) :=
  ⟨(a == c), SeqAt.EqAt.int_int a t c u, by simp⟩
theorem rcLt_int (A : Around) (s : Shared) (a : Int) (t : Tok) (c : Int) (u : Tok) (prog : Program) (w : World) (E : Value → Shared → Prop) (Q : Value → Shared → Prop) (h : Q (.bool (decide (a < c))) s) :
    wpAny (model prog w) A (richCompare .Lt (.int a t) (.int c u)) Q E s :=
  (PyProof.Rows.lt_int h : wpAny (model prog w) A (compareOp .Lt (.int a t) (.int c u)) Q E s)

section
open PySem.SeqAt
open PySem.AutoSeq1 (wpAny_loadPart')
open PySem.MeetsSeq PySem.MeetsSeq2 PySem.MeetsSeq3

theorem tuple_lt_ints (l b : Addr) (items items2 : Array Value) (n n2 : Nat) (dd dd2 : Option Addr) (sl sl2 : Array (Option Value)) (ns ms : List Int) (hi : IntsAre items.toList ns) (hj : IntsAre items2.toList ms) :
    Meets (Builtin.«tuple.__lt__» ⟨[.ref l, .ref b], []⟩)
      (fun _ R s => s.heap.get? l = some { cls := .type "tuple", dict := dd, data := .seq items n, slots := sl } ∧ s.heap.get? b = some { cls := .type "tuple", dict := dd2, data := .seq items2 n2, slots := sl2 } ∧
        R (.ok (.ret (.bool (lexLt ns ms)))) s) :=
  .of_wp fun prog w A R s h => by
    obtain ⟨hp, g, d, tk, os⟩ := s; obtain ⟨hl, hb, h⟩ := h
    have f2 := AutoSeq1.sub_tuple_tuple
    have z1 : items.size = ns.length := by rw [← hi.length]; simp
    have z2 : items2.size = ms.length := by rw [← hj.length]; simp
    wp_walk using wpAny_loadPart' hl, wpAny_loadPart' hb, wpAny_forIn_list _ (fun rest b s' => b.1 = none ∧ s' = ⟨hp, g, d, tk, os⟩ ∧ ∃ (vs ws : List Value) (ns' ms' : List Int), rest = vs.zip ws ∧
      IntsAre vs ns' ∧ IntsAre ws ms' ∧ ns'.length + items2.size = ms'.length + items.size ∧ R (.ok (.ret (.bool (lexLt ns' ms')))) ⟨hp, g, d, tk, os⟩) _
    case turn =>
      rintro ⟨y, x⟩ rest b s' ⟨hb', rfl, vs, ws, ns', ms', hz, hvi, hwi, hlen, hR⟩
      cases hvi with
      | nil => rw [List.zip_nil_left] at hz; cases hz
      | cons a t hvi' =>
        cases hwi with
        | nil => rw [List.zip_nil_right] at hz; cases hz
        | cons c u hwi' =>
          rw [List.zip_cons_cons] at hz
          injection hz with hyx hrest
          injection hyx with hy hx
          subst hy hx
          rw [lexLt_cons] at hR
          simp only [List.length_cons] at hlen
          obtain ⟨e, he, hiff⟩ := eqAt_int A.in1 ⟨hp, g, d, tk, os⟩ a t c u
          refine wpAny_bind (he prog w _ _ ?_)
          cases e with
          | true =>
            rw [if_pos (hiff.mp rfl)] at hR
            wp_walk
            exact ⟨rfl, rfl, _, _, _, _, hrest, hvi', hwi', by omega, hR⟩
          | false =>
            rw [if_neg (fun q => absurd (hiff.mpr q) Bool.false_ne_true)] at hR
            have hri := rcLt_int A.in1 ⟨hp, g, d, tk, os⟩ a t c u prog w
            wp_walk using hri
            exact ⟨_, rfl, by simpa using hR⟩
    case fin =>
      rintro ⟨b1, b2⟩ s' ⟨hb', rfl, vs, ws, ns', ms', hz, hvi, hwi, hlen, hR⟩
      simp only at hb'
      subst hb'
      have hv : lexLt ns' ms' = decide (items.size < items2.size) := by
        cases hvi with
        | nil =>
          cases hwi with
          | nil =>
            simp only [List.length_nil] at hlen
            rw [lexLt_nil_nil]
            exact (decide_eq_false (by omega)).symm
          | cons c u hw =>
            simp only [List.length_nil, List.length_cons] at hlen
            rw [lexLt_nil_cons]
            exact (decide_eq_true (by omega)).symm
        | cons a t hv =>
          cases hwi with
          | nil =>
            simp only [List.length_nil, List.length_cons] at hlen
            rw [lexLt_cons_nil]
            exact (decide_eq_false (by omega)).symm
          | cons c u hw =>
            rw [List.zip_cons_cons] at hz
            cases hz
      rw [hv] at hR
      wp_walk
      exact ⟨_, rfl, by simpa [Builtin.Tuple.tupleCompareSizes] using hR⟩
    case h =>
      exact ⟨rfl, rfl, items.toList, items2.toList, ns, ms, rfl, hi, hj, by omega, h⟩
end

section
variable {prog : Program} {w : World} {A : Around} {E : Value → Shared → Prop} {s : Shared}

theorem lt_tupInts {l b : Addr} {items items2 : Array Value} {ns ms : List Int} {Q : Value → Shared → Prop} (hl : IsTup s.heap l items) (hb : IsTup s.heap b items2) (hi : IntsAre items.toList ns) (hj : IntsAre items2.toList ms)
    (hu : A.units < cLine) (h : Q (.bool (lexLt ns ms)) s) : wpAny (model prog w) A (compareOp .Lt (.ref l) (.ref b)) Q E s := by
  obtain ⟨⟨cls, dd, data, sl⟩, ho, hc, n, hd⟩ := id hl
  obtain ⟨⟨cls2, dd2, data2, sl2⟩, ho2, hc2, n2, hd2⟩ := id hb
  simp only at hc hd hc2 hd2
  subst hc hd hc2 hd2
  exact richCompare_meets_room (op := .Lt) ⟨_, ho, rfl⟩ ⟨_, ho2, rfl⟩ PySem.F.slot_tuple_lt PySem.F.entry_tuple_lt (PySem.F.args_tuple_lt_2 _ _) (tuple_lt_ints l b items items2 n n2 dd dd2 sl sl2 ns ms hi hj)
    ⟨ho, ho2, show Value.bool (lexLt ns ms) ≠ Value.notImplemented ∧ Q (.bool (lexLt ns ms)) s from ⟨(fun x => nomatch x), h⟩⟩ hu

/-- t + u, t not empty -/
theorem cat_tup {t b : Addr} {vs ws : List Value} {Q : Value → Shared → Prop} (ht : IsTup s.heap t vs.toArray) (hb : IsTup s.heap b ws.toArray) (hv : vs ≠ [])
    (h1 : ws = [] → Q (.ref t) s) (h2 : ws ≠ [] → Q (.ref s.heap.objs.size) { s with heap := s.heap.push { cls := .type "tuple", data := .seq (vs ++ ws).toArray } })
    (hsz : vs.length + ws.length ≤ sizeLine) : wpAny (model prog w) A (binaryOp .Add (.ref t) (.ref b)) Q E s := by
  obtain ⟨⟨cls, dd, data, sl⟩, ho, hc, n, hd⟩ := id ht
  obtain ⟨⟨cls2, dd2, data2, sl2⟩, ho2, hc2, n2, hd2⟩ := id hb
  simp only at hc hd hc2 hd2
  subst hc hd hc2 hd2
  have e : vs.toArray ++ ws.toArray = (vs ++ ws).toArray := by simp
  by_cases hw : ws = []
  · exact concat_meets ⟨_, ho, rfl⟩ ⟨_, ho2, rfl⟩ noFill_tuple_add seq_tuple_add PySem.F.slot_tuple_add PySem.F.entry_tuple_add (PySem.F.args_tuple_add_2 _ _)
      (tuple_addW1 t b vs.toArray ws.toArray n n2 dd dd2 sl sl2 (by simpa using hv) (by simp [hw])) ⟨ho, ho2, h1 hw⟩
  · refine concat_meets ⟨_, ho, rfl⟩ ⟨_, ho2, rfl⟩ noFill_tuple_add seq_tuple_add PySem.F.slot_tuple_add PySem.F.entry_tuple_add (PySem.F.args_tuple_add_2 _ _)
      (tuple_addW2 t b vs.toArray ws.toArray n n2 dd dd2 sl sl2 (by simpa using hv) (by simpa using hw) (by rw [List.size_toArray, List.size_toArray]; exact hsz)) ⟨ho, ho2, ?_⟩
    rw [e]
    exact h2 hw

/-! ### t[a:b], not the whole -/
/-- a slice's bound as a place among n (d where it is left out) -/
def sIx (n d : Nat) : Option Int → Nat
  | none => d
  | some v => if v < 0 then (v + (n : Int)).toNat else min v.toNat n
theorem sIx_none (n d : Nat) : sIx n d none = d := rfl
theorem sIx_nat (n d k : Nat) : sIx n d (some (k : Int)) = min k n := by
  show (if (k : Int) < 0 then ((k : Int) + (n : Int)).toNat else min (k : Int).toNat n) = min k n
  rw [if_neg (by omega), Int.toNat_natCast]
theorem sIx_le (n d : Nat) (hd : d ≤ n) (o : Option Int) : sIx n d o ≤ n := by
  cases o with
  | none => exact hd
  | some v =>
    show (if v < 0 then (v + (n : Int)).toNat else min v.toNat n) ≤ n
    by_cases hv : v < 0
    · rw [if_pos hv]; omega
    · rw [if_neg hv]; exact Nat.min_le_right _ _
theorem clip_eq (v : Int) (n d : Nat) : (if v < 0 then max (v + (n : Int)) 0 else min v (n : Int)) = ((sIx n d (some v) : Nat) : Int) := by
  show (if v < 0 then max (v + (n : Int)) 0 else min v (n : Int)) = (((if v < 0 then (v + (n : Int)).toNat else min v.toNat n) : Nat) : Int)
  by_cases hv : v < 0
  · simp only [if_pos hv]; omega
  · simp only [if_neg hv]; omega
theorem adjust_gen (lo hi : Option Int) (n : Nat) : Builtin.Slice.sliceAdjust lo hi 1 (n : Int) = (((sIx n 0 lo : Nat) : Int), ((sIx n n hi : Nat) : Int)) := by
  have h1 : ¬ ((1 : Int) < 0) := by omega
  unfold Builtin.Slice.sliceAdjust
  simp only [h1, if_false]
  refine Prod.ext ?_ ?_
  · cases lo with
    | none => rfl
    | some v => exact clip_eq v n 0
  · cases hi with
    | none => rfl
    | some v => exact clip_eq v n n
theorem places_gen (i j : Nat) : Builtin.Slice.slicePlaces (i : Int) (j : Int) 1 = j - i := by
  unfold Builtin.Slice.slicePlaces
  have h1 : (1 : Int) > 0 := by omega
  simp only [h1, if_true, Int.ediv_one]
  split <;> omega
theorem slicePart_ {v : Value} {o : Option Int} {Q : Option Int → Shared → Prop} (p : IsPart v o) (h : Q o s) : wpAny (model prog w) A (Builtin.Slice.slicePartIndex v) Q E s := by
  cases p with
  | none => exact slicePart_none h
  | int i t => exact slicePart_int h
theorem sliceApplied_gen {sl : Addr} {vl vu : Value} {lo hi : Option Int} {n : Nat} {Q : Int × Int × Nat → Shared → Prop} (hs : s.heap.IsSliceOf sl vl vu .none) (pl : IsPart vl lo) (pu : IsPart vu hi)
    (h : Q (((sIx n 0 lo : Nat) : Int), 1, sIx n n hi - sIx n 0 lo) s) : wpAny (model prog w) A (Builtin.Slice.sliceApplied (.ref sl) (pure (n : Int))) Q E s := by
  obtain ⟨os, hos, hcs, hds⟩ := id hs
  unfold Builtin.Slice.sliceApplied Builtin.Slice.sliceFields
  refine wpAny_bind (wpAny_bind (wpAny_field hos hds (x := vl) rfl (wpAny_bind (wpAny_field hos hds (x := vu) rfl (wpAny_bind (wpAny_field hos hds (x := .none) rfl (wpAny_pure ?_)))))))
  refine wpAny_bind (slicePart_none ?_)
  show wpAny _ _ (if ((1 : Int) == 0) = true then _ else _) _ _ s
  rw [if_neg (by decide)]
  refine wpAny_bind (slicePart_ pl (wpAny_bind (slicePart_ pu (wpAny_bind (wpAny_pure ?_)))))
  show wpAny _ _ (match Builtin.Slice.sliceAdjust lo hi 1 (n : Int) with | (lo, hi) => pure (lo, (1 : Int), Builtin.Slice.slicePlaces lo hi 1)) _ _ s
  rw [adjust_gen lo hi n]
  show wpAny _ _ (pure (((sIx n 0 lo : Nat) : Int), (1 : Int), Builtin.Slice.slicePlaces ((sIx n 0 lo : Nat) : Int) ((sIx n n hi : Nat) : Int) 1)) _ _ s
  rw [places_gen]
  exact wpAny_pure h
theorem pick_gen (xs : Array Value) (i k : Nat) : ((List.range k).filterMap fun (m : Nat) => xs[((i : Int) + (m : Int) * 1).toNat]?).toArray = ((xs.toList.drop i).take k).toArray := by
  have e : (fun (m : Nat) => xs[((i : Int) + (m : Int) * 1).toNat]?) = fun m => xs[i + m]? := by
    funext m
    have : ((i : Int) + (m : Int) * 1).toNat = i + m := by omega
    rw [this]
  rw [e]
  have := pick_run xs i k
  rw [List.filterMap_map] at this
  have e2 : ((fun x => xs[x]?) ∘ fun x => i + x) = fun m => xs[i + m]? := rfl
  rw [e2] at this
  rw [this]

theorem getItem_tuple_cut {t sl : Addr} {items : Array Value} {vl vu : Value} {lo hi : Option Int} {Q : Value → Shared → Prop} (ht : IsTup s.heap t items) (hs : s.heap.IsSliceOf sl vl vu .none) (pl : IsPart vl lo) (pu : IsPart vu hi)
    (hw : ¬ (sIx items.size 0 lo = 0 ∧ sIx items.size items.size hi = items.size))
    (h : Q (.ref s.heap.objs.size) { s with heap := s.heap.push { cls := .type "tuple", data := .seq ((items.toList.drop (sIx items.size 0 lo)).take (sIx items.size items.size hi - sIx items.size 0 lo)).toArray } })
    (hsz : items.size ≤ sizeLine) : wpAny (model prog w) A (getItem (.ref t) (.ref sl)) Q E s := by
  have htake : sizeOk (.seq ((items.toList.drop (sIx items.size 0 lo)).take (sIx items.size items.size hi - sIx items.size 0 lo)).toArray) := by
    show ((items.toList.drop (sIx items.size 0 lo)).take (sIx items.size items.size hi - sIx items.size 0 lo)).toArray.size ≤ sizeLine
    rw [List.size_toArray, List.length_take, List.length_drop, Array.length_toList]
    omega
  have hj : sIx items.size items.size hi ≤ items.size := sIx_le _ _ (Nat.le_refl _) hi
  obtain ⟨os, hos, hcs, hds⟩ := id hs
  have hTs : s.TypeIs (.ref sl) "slice" := ⟨os, hos, hcs⟩
  unfold getItem
  try with_reducible refine wpAny_holding ?_
  first | refine wpAny_bind (wpAny_pure ?_) | skip
  refine wpAny_bind (wpAny_sequenceKey ht.typeIs (by decide) ?_)
  refine wpAny_bind (wpAny_callSpecial?_slot (name := Str.ofString "__getitem__") ht.typeIs PyProof.Rows.slot_tuple_getitem
    (wpAny_call_entry PyProof.Rows.slot_tuple_getitem ht.typeIs entry_tuple_getitem ?_ (args_tuple_getitem _ _)))
  show wpAny _ _ (Builtin.Tuple.tupleItemsOf (.ref t) >>= _) _ _ s
  refine wpAny_bind (tupleItemsOf_ ht ?_)
  refine wpAny_bind (wpAny_typeOf hTs ?_)
  rw [if_pos (by decide)]
  refine wpAny_bind (sliceApplied_gen hs pl pu ?_)
  have hno : ¬ ((((sIx items.size 0 lo : Nat) : Int) == 0 && (1 : Int) == 1 && (sIx items.size items.size hi - sIx items.size 0 lo) == items.size) = true) := by
    intro q
    rw [Bool.and_eq_true, Bool.and_eq_true] at q
    have q1 : ((sIx items.size 0 lo : Nat) : Int) = 0 := eq_of_beq q.1.1
    have q2 : sIx items.size items.size hi - sIx items.size 0 lo = items.size := eq_of_beq q.2
    exact hw ⟨by omega, by omega⟩
  show wpAny _ _ (if (((sIx items.size 0 lo : Nat) : Int) == 0 && (1 : Int) == 1 && (sIx items.size items.size hi - sIx items.size 0 lo) == items.size) = true then _ else _) _ _ s
  rw [if_neg hno, pick_gen]
  first
    | exact wpAny_bind (m := Builtin.Tuple.tupleExact _) (wpAny_newObj_type (wpAny_pure ⟨_, rfl, wpAny_pure h⟩) htake)
    | exact wpAny_bind (m := Builtin.Tuple.tupleExact _) (wpAny_newObj_type (wpAny_bind (wpAny_pure (wpAny_pure ⟨_, rfl, wpAny_pure h⟩))) htake)
    | exact wpAny_bind (wpAny_bind (m := Builtin.Tuple.tupleExact _) (wpAny_newObj_type (wpAny_pure (wpAny_pure ⟨_, rfl, wpAny_pure h⟩)) htake))
    | exact wpAny_bind (wpAny_bind (m := Builtin.Tuple.tupleExact _) (wpAny_newObj_type (wpAny_pure ⟨_, rfl, wpAny_pure h⟩) htake))
end
end HT

namespace L2
open PySem PySem.Spec PyProof.Rows

/-! ### the parts of a slice -/
abbrev TO := St → Hp → (Option Int → Hp → Prop) → Prop
/-- a slice's part (left out, or an int) -/
def PO (X : Cx) (e : Option Expr) (t : TO) : Prop :=
  ∀ (pins : List (Addr × Obj)) (s : Shared) (σ : St) (H : Hp) (Q : Option Int → Hp → Prop), Inv X pins σ H s → t σ H Q →
    wpAny (model X.prog X.w) X.A (evalPart e X.env) (fun u s' => ∃ o H', Inv X pins σ H' s' ∧ IsPart u o ∧ Q o H') X.xe s
def tNoPart : TO := fun _ H Q => Q none H
def tPart (t : TE) : TO := fun σ H Q => t σ H fun x H1 => ∃ i, x = .int i ∧ Q (some i) H1

theorem intsAre_of {ns : List Int} : ∀ {us : List Value}, Vals (ns.map V.int) us → IntsAre us ns := by
  induction ns with
  | nil => intro us r; rw [List.map_nil] at r; cases r; exact .nil
  | cons n ns ih =>
    intro us r
    rw [List.map_cons] at r
    cases r with
    | cons r1 r2 =>
      obtain ⟨t, e⟩ := r1
      subst e
      exact .cons n t (ih r2)

section
variable {X : Cx} {e : Expr} {te : TE} {lo hi : Option Expr} {tl th : TO} {pos p2 : Pos}

theorem po_none : PO X none tNoPart := by
  intro pins s σ H Q I h
  rw [evalPart_none]
  exact wpAny_pure ⟨none, H, I, .none, h⟩
theorem po_some (h : PE X e te) : PO X (some e) (tPart te) := by
  intro pins s σ H Q I hw
  rw [evalPart_some]
  refine thn (h pins s σ H _ I hw) fun u s1 ⟨x, H1, I1, r1, q1⟩ => ?_
  obtain ⟨i, rfl, q⟩ := q1
  obtain ⟨t, rfl⟩ := r1
  exact ⟨some i, H1, I1, .int i t, q⟩

/-- what a slice of a value is, by values: the slice object stands at sl -/
def SlR (X : Cx) (r : V → Option Int → Option Int → Hp → VK → Prop) : Prop :=
  ∀ (pins : List (Addr × Obj)) (s : Shared) (σ : St) (H : Hp) (x : V) (v vl vu : Value) (lo hi : Option Int) (sl : Addr) (Q : VK), Inv X pins σ H s → RelV x v → s.heap.IsSliceOf sl vl vu .none → IsPart vl lo → IsPart vu hi → r x lo hi H Q →
    ∃ T id, typeLookup (.type T) "__getitem__" = pure (some (.builtin id)) ∧ s.TypeIs v T ∧ wpAny (model X.prog X.w) X.A (getItem v (.ref sl)) (EP X pins σ Q) X.xe s
theorem SlR.or {r r' : V → Option Int → Option Int → Hp → VK → Prop} (h : SlR X r) (h' : SlR X r') : SlR X (fun x lo hi H Q => r x lo hi H Q ∨ r' x lo hi H Q) := by
  intro pins s σ H x v vl vu lo hi sl Q I rx hs pl pu q
  rcases q with q | q
  · exact h pins s σ H x v vl vu lo hi sl Q I rx hs pl pu q
  · exact h' pins s σ H x v vl vu lo hi sl Q I rx hs pl pu q
def tSl (r : V → Option Int → Option Int → Hp → VK → Prop) (te : TE) (tl th : TO) : TE := fun σ H Q => te σ H fun x H1 => tl σ H1 fun l H2 => th σ H2 fun u H3 => r x l u H3 Q
/-- a[lo:hi], any a -/
theorem pe_slice {r : V → Option Int → Option Int → Hp → VK → Prop} (hr : SlR X r) (he : PE X e te) (hl : PO X lo tl) (hu : PO X hi th) : PE X (.Subscript e (.Slice lo hi none p2) pos) (tSl r te tl th) := by
  intro pins s σ H Q I h
  refine Subscript_ (thn (he pins s σ H _ I h) fun v s1 ⟨x, H1, I1, r1, q1⟩ => ?_)
  refine wpAny_Slice (thn (hl pins s1 σ H1 _ I1 q1) fun vl s2 ⟨l, H2, I2, pl, q2⟩ => thn (hu pins s2 σ H2 _ I2 q2) fun vu s3 ⟨u, H3, I3, pu, q3⟩ => ?_)
  rw [evalPart_none]
  refine wpAny_pure ?_
  have I4 : Inv X pins σ H3 { s3 with heap := s3.heap.push { cls := .type "slice", data := .fields #[vl, vu, .none] } } := I3.kept (t' := s3.toks) fun b ob q => Heap.get?_push_of_some _ q
  obtain ⟨T, id, hT, ht, hg⟩ := hr pins { s3 with heap := s3.heap.push { cls := .type "slice", data := .fields #[vl, vu, .none] } } σ H3 x v vl vu l u s3.heap.objs.size Q I4 r1 (Heap.IsSliceOf.new ..) pl pu q3
  show wpAny (model X.prog X.w) X.A (subscriptTail e (.Slice lo hi none p2) v (.ref s3.heap.objs.size)) (EP X pins σ Q) X.xe { s3 with heap := s3.heap.push { cls := .type "slice", data := .fields #[vl, vu, .none] } }
  exact tail_any (ops := [.ref s3.heap.objs.size, v]) ht hT hg (by with_unfolding_all rfl)

/-- the items of xs[lo:hi] -/
def cutV (xs : List V) (lo hi : Option Int) : List V := (xs.drop (HT.sIx xs.length 0 lo)).take (HT.sIx xs.length xs.length hi - HT.sIx xs.length 0 lo)
theorem cutV_length (xs : List V) (lo hi : Option Int) : (cutV xs lo hi).length ≤ xs.length := by
  unfold cutV
  rw [List.length_take, List.length_drop]
  omega
/-- t[lo:hi], not the whole of it (the whole would be t itself) -/
def rSlT (K : PySem.W.Frag) : V → Option Int → Option Int → Hp → VK → Prop := fun x lo hi H Q => ∃ a xs, x = .ref a ∧ SqT K H a xs ∧
  ¬ (HT.sIx xs.length 0 lo = 0 ∧ HT.sIx xs.length xs.length hi = xs.length) ∧ ∀ p, H p = none → Q (.ref p) (upd H p (.tup (cutV xs lo hi)))
theorem sl_tup : SlR X (rSlT X.K) := by
  intro pins s σ H x v vl vu lo hi sl Q I rx hs pl pu h
  obtain ⟨a, xs, rfl, hx, hw, q⟩ := h
  cases rx
  obtain ⟨its, r, ht, hz⟩ := I.tuple hx
  have hlen : its.toArray.size = xs.length := by rw [List.size_toArray]; exact r.length.symm
  refine ⟨"tuple", _, PyProof.Rows.slot_tuple_getitem.lookup, ht.typeIs, ?_⟩
  refine HT.getItem_tuple_cut ht hs pl pu (by rw [hlen]; exact hw) ?_ (by rw [hlen]; exact hz)
  rw [hlen]
  refine ⟨.ref s.heap.objs.size, _, I.laid (t' := s.toks) (o := .tup (cutV xs lo hi)) (fun b ob q => Heap.get?_push_of_some _ q) (Nat.le_refl _) ?_, rfl, q _ (I.hok.fresh (Nat.le_refl _))⟩
  exact ⟨Nat.le_trans (cutV_length xs lo hi) hz, _, (r.drop (HT.sIx xs.length 0 lo)).take (HT.sIx xs.length xs.length hi - HT.sIx xs.length 0 lo), IsTup.new _ _⟩

/-! ### t < u, t + u -/
def rLtT (K : PySem.W.Frag) : R2 := fun x y H Q => ∃ a b ns ms, x = .ref a ∧ y = .ref b ∧ SqT K H a (ns.map V.int) ∧ SqT K H b (ms.map V.int) ∧ Q (.bl (HT.lexLt ns ms)) H
theorem op_ltT (hu : X.A.units < cLine) : OpR X (compareOp .Lt) (rLtT X.K) := by
  intro pins s σ H x y v u Q I rx ry h
  obtain ⟨a, b, ns, ms, rfl, rfl, ha, hb, q⟩ := h
  cases rx
  cases ry
  obtain ⟨its, r1, p1, _⟩ := I.tuple ha
  obtain ⟨its2, r2, p2, _⟩ := I.tuple hb
  have i1 : IntsAre its.toArray.toList ns := intsAre_of r1
  have i2 : IntsAre its2.toArray.toList ms := intsAre_of r2
  exact HT.lt_tupInts p1 p2 i1 i2 hu ⟨.bl (HT.lexLt ns ms), H, I, rfl, q⟩
/-- t + u, t not empty: u empty gives t itself -/
def rCatT (K : PySem.W.Frag) : R2 := fun x y H Q => ∃ a b xs ys, x = .ref a ∧ y = .ref b ∧ SqT K H a xs ∧ SqT K H b ys ∧ xs ≠ [] ∧ xs.length + ys.length ≤ sizeLine ∧
  (ys = [] → Q (.ref a) H) ∧ (ys ≠ [] → ∀ p, H p = none → Q (.ref p) (upd H p (.tup (xs ++ ys))))
theorem Vals.nil_iff {xs : List V} {us : List Value} (r : Vals xs us) : us = [] ↔ xs = [] := by
  cases r with
  | nil => simp
  | cons _ _ => simp
theorem op_catT : OpR X (binaryOp .Add) (rCatT X.K) := by
  intro pins s σ H x y v u Q I rx ry h
  obtain ⟨a, b, xs, ys, rfl, rfl, ha, hb, hx, hz, q1, q2⟩ := h
  cases rx
  cases ry
  obtain ⟨its, r1, p1, _⟩ := I.tuple ha
  obtain ⟨its2, r2, p2, _⟩ := I.tuple hb
  refine HT.cat_tup p1 p2 (fun z => hx (r1.nil_iff.mp z)) (fun z => ⟨.ref a, H, I, rfl, q1 (r2.nil_iff.mp z)⟩) (fun z => ?_) (by rw [← r1.length, ← r2.length]; exact hz)
  refine ⟨.ref s.heap.objs.size, _, I.laid (t' := s.toks) (o := .tup (xs ++ ys)) (fun b ob q => Heap.get?_push_of_some _ q) (Nat.le_refl _) ?_, rfl, q2 (fun w => z (r2.nil_iff.mpr w)) _ (I.hok.fresh (Nat.le_refl _))⟩
  exact ⟨by rw [List.length_append]; exact hz, _, r1.append r2, IsTup.new _ _⟩
/-- tuple(t) -/
theorem call_tupleT : CallR X (.type "tuple") (fun xs H Q => ∃ a ys, xs = [.ref a] ∧ SqT X.K H a ys ∧ Q (.ref a) H) := by
  intro pins s σ H xs us Q I r h
  obtain ⟨a, ys, rfl, ha, q⟩ := h
  obtain ⟨u, rfl, ru⟩ := vals1 r
  cases ru
  obtain ⟨its, _, p1, _⟩ := I.tuple ha
  exact call_tuple_same (items := its.toArray) p1 ⟨.ref a, H, I, rfl, q⟩
end
end L2

namespace L2
open PySem PySem.Spec PyProof.Rows

/-! ### places -/
/-- the place that an index of any sign means -/
def ixN (n : Nat) (i : Int) : Option Nat := if 0 ≤ i then (if i < n then some i.toNat else none) else if -(n : Int) ≤ i then some (i + n).toNat else none
def atI {α : Type} (xs : List α) (i : Int) : Option α := (ixN xs.length i).bind fun j => xs[j]?
theorem ixN_seq {n : Nat} {i : Int} {j : Nat} (h : ixN n i = some j) : seqIndex? i n = some j ∧ j < n ∧ -(n : Int) ≤ i ∧ i < n := by
  unfold ixN at h
  by_cases h0 : 0 ≤ i
  · rw [if_pos h0] at h
    by_cases h1 : i < n
    · rw [if_pos h1] at h
      have e : i.toNat = j := Option.some.inj h
      exact ⟨by rw [seqIndex_of h0 h1, e], by omega, by omega, h1⟩
    · rw [if_neg h1] at h; cases h
  · rw [if_neg h0] at h
    by_cases h1 : -(n : Int) ≤ i
    · rw [if_pos h1] at h
      have e : (i + n).toNat = j := Option.some.inj h
      exact ⟨by rw [seqIndex_neg (by omega) h1, e], by omega, h1, by omega⟩
    · rw [if_neg h1] at h; cases h
theorem atI_get {α : Type} {xs : List α} {i : Int} {v : α} (h : atI xs i = some v) : ∃ j, seqIndex? i xs.length = some j ∧ xs[j]? = some v ∧ j < xs.length ∧ -(xs.length : Int) ≤ i ∧ i < xs.length := by
  unfold atI at h
  cases e : ixN xs.length i with
  | none => rw [e] at h; cases h
  | some j =>
    rw [e] at h
    obtain ⟨h1, h2, h3, h4⟩ := ixN_seq e
    exact ⟨j, h1, h, h2, h3, h4⟩
theorem atI_nat {α : Type} {xs : List α} {j : Nat} {v : α} (h : xs[j]? = some v) : atI xs (j : Int) = some v := by
  have hj : j < xs.length := (List.getElem?_eq_some_iff.mp h).1
  have e : ixN xs.length (j : Int) = some j := by
    unfold ixN
    rw [if_pos (by omega), if_pos (by omega)]; simp
  unfold atI; rw [e]; exact h
theorem atI_last {α : Type} (xs : List α) (v : α) : atI (xs ++ [v]) (-1) = some v := by
  have hl : (xs ++ [v]).length = xs.length + 1 := by simp
  have e : ixN (xs ++ [v]).length (-1) = some xs.length := by
    unfold ixN
    rw [hl, if_neg (by decide), if_pos (by omega)]
    congr 1
    omega
  unfold atI
  rw [e]
  show (xs ++ [v])[xs.length]? = some v
  simp

/-! ### what may be subscripted -/
/-- what stands as an index of a plain subscript -/
def PlainIx (b : Expr) : Prop := ∀ o i, subscripted b false o i = operate [o, i] (getItem o i)
/-- a subscript by values -/
def IxR (X : Cx) (r : R2) : Prop :=
  ∀ (value slice : Expr) (pins : List (Addr × Obj)) (s : Shared) (σ : St) (H : Hp) (x y : V) (v u : Value) (Q : VK), Inv X pins σ H s → RelV x v → RelV y u → r x y H Q →
    subscripted slice false v u = operate [v, u] (getItem v u) → wpAny (model X.prog X.w) X.A (subscriptTail value slice v u) (EP X pins σ Q) X.xe s
/-- a call of a builtin's method by values: the receiver, the arguments -/
def MtR (X : Cx) (id : String) (r : V → List V → Hp → VK → Prop) : Prop :=
  ∀ (pins : List (Addr × Obj)) (s : Shared) (σ : St) (H : Hp) (x : V) (xs : List V) (v : Value) (us : List Value) (Q : VK), Inv X pins σ H s → RelV x v → Vals xs us → r x xs H Q →
    wpAny (model X.prog X.w) X.A (call (.builtin id) (v :: us)) (EP X pins σ Q) X.xe s
section
variable {X : Cx} {a b : Expr} {ta tb : TE} {pos : Pos}
theorem IxR.or {r r' : R2} (h : IxR X r) (h' : IxR X r') : IxR X (fun x y H Q => r x y H Q ∨ r' x y H Q) := by
  intro value slice pins s σ H x y v u Q I rx ry q hs
  rcases q with q | q
  · exact h value slice pins s σ H x y v u Q I rx ry q hs
  · exact h' value slice pins s σ H x y v u Q I rx ry q hs
theorem MtR.or {id : String} {r r' : V → List V → Hp → VK → Prop} (h : MtR X id r) (h' : MtR X id r') : MtR X id (fun x xs H Q => r x xs H Q ∨ r' x xs H Q) := by
  intro pins s σ H x xs v us Q I rx rs q
  rcases q with q | q
  · exact h pins s σ H x xs v us Q I rx rs q
  · exact h' pins s σ H x xs v us Q I rx rs q
/-- a[b] -/
theorem pe_ix {r : R2} (hr : IxR X r) (ha : PE X a ta) (hb : PE X b tb) (hs : PlainIx b) : PE X (.Subscript a b pos) (tOp r ta tb) := by
  intro pins s σ H Q I h
  exact Subscript_ (binT ha hb I h fun v u s2 x y H2 I2 rx ry q => hr a b pins s2 σ H2 x y v u Q I2 rx ry q (hs _ _))

def rIxL (K : PySem.W.Frag) : R2 := fun x y H Q => ∃ p xs i v, x = .ref p ∧ y = .int i ∧ SqL K H p xs ∧ atI xs i = some v ∧ Q v H
def rIxT (K : PySem.W.Frag) : R2 := fun x y H Q => ∃ p xs i v, x = .ref p ∧ y = .int i ∧ SqT K H p xs ∧ atI xs i = some v ∧ Q v H
def rIxS : R2 := fun x y H Q => ∃ z i c, x = .str z ∧ y = .int i ∧ z.length ≤ sizeLine ∧ atI z.cps.toList i = some c ∧ Q (.str ⟨#[c]⟩) H
theorem ix_list : IxR X (rIxL X.K) := by
  intro value slice pins s σ H x y v u Q I rx ry h hs
  obtain ⟨p, xs, i, z, rfl, rfl, hq, he, q⟩ := h
  cases rx
  obtain ⟨t, rfl⟩ := ry
  obtain ⟨its, r, pl, hz⟩ := I.list hq
  obtain ⟨j, h1, h2, h3, h4, h5⟩ := atI_get he
  obtain ⟨w, ew, rw'⟩ := r.get h2
  have hl := r.length
  have hn := line63
  have fin : EP X pins σ Q w s := ⟨z, H, I, rw', q⟩
  by_cases h0 : 0 ≤ i
  · have hj : i.toNat = j := by
      rw [seqIndex_of h0 h5] at h1
      exact Option.some.inj h1
    exact item_listR pl.isList h0 (by omega) (by rw [hj]; simpa using ew) fin hs
  · have hj : (i + (its.toArray.size : Int)).toNat = j := by
      rw [seqIndex_neg (by omega) h4] at h1
      rw [List.size_toArray, ← hl]
      exact Option.some.inj h1
    exact subscriptTail_builtinR (x := w) pl.isList.typeIs slot_list_getitem.lookup
      (wpAny_getItem_list_neg (Q := fun r s' => r = w ∧ EP X pins σ Q r s') pl.isList (by omega) (by rw [List.size_toArray] <;> omega) (by omega) (by rw [hj]; simpa using ew) ⟨rfl, fin⟩) hs
theorem ix_tup : IxR X (rIxT X.K) := by
  intro value slice pins s σ H x y v u Q I rx ry h hs
  obtain ⟨p, xs, i, z, rfl, rfl, hq, he, q⟩ := h
  cases rx
  obtain ⟨t, rfl⟩ := ry
  obtain ⟨its, r, pl, hz⟩ := I.tuple hq
  obtain ⟨j, h1, h2, h3, h4, h5⟩ := atI_get he
  obtain ⟨w, ew, rw'⟩ := r.get h2
  have hl := r.length
  have hn := line63
  have fin : EP X pins σ Q w s := ⟨z, H, I, rw', q⟩
  exact subscriptTail_builtinR (x := w) pl.typeIs slot_tuple_getitem.lookup
    (getItem_tuple (j := j) (Q := fun r s' => r = w ∧ EP X pins σ Q r s') pl (by omega) (by omega) (by rw [List.size_toArray, ← hl]; exact h1) (by simpa using ew) ⟨rfl, fin⟩) hs
theorem ix_str : IxR X rIxS := by
  intro value slice pins s σ H x y v u Q I rx ry h hs
  obtain ⟨z, i, c, rfl, rfl, hz, he, q⟩ := h
  obtain ⟨t, rfl⟩ := rx
  obtain ⟨t', rfl⟩ := ry
  obtain ⟨j, h1, h2, h3, h4, h5⟩ := atI_get he
  have hl : z.cps.toList.length = z.length := by simp [Str.length]
  rw [hl] at h1 h4 h5
  have hn := line63
  exact tail_any (typeIs_str s z t) slot_str_getitem.lookup (getItem_str (c := c) (by
    have e1 : decide (i < -(2 ^ 63 : Int)) = false := decide_eq_false (by omega)
    have e2 : decide (i ≥ 2 ^ 63) = false := decide_eq_false (by omega)
    rw [e1, e2, Bool.or_false]) (by rw [h1]; simpa using h2) ⟨.str ⟨#[c]⟩, H, I.tok _, ⟨_, rfl⟩, q⟩) hs
/-- list, tuple or str -/
def rIx (K : PySem.W.Frag) : R2 := fun x y H Q => rIxL K x y H Q ∨ rIxT K x y H Q ∨ rIxS x y H Q
theorem ix_seq : IxR X (rIx X.K) := ix_list.or (ix_tup.or ix_str)

/-! ### xs[i] = v, any sign -/
/-- the list's object behind a store -/
theorem mapSeq_set (its : List Value) (n j : Nat) (u : Value) : Obj.mapSeq (·.setIfInBounds j u) { cls := .type "list", data := .seq its.toArray n } = { cls := .type "list", data := .seq (its.set j u).toArray n } := by
  simp [Obj.mapSeq]
theorem Inv.lst {pins : List (Addr × Obj)} {σ : St} {H : Hp} {s : Shared} {p : Addr} {xs : List V} (I : Inv X pins σ H s) (h : H p = some (.lst xs)) :
    ∃ (its : List Value) (n : Nat), Vals xs its ∧ s.heap.get? p = some { cls := .type "list", data := .seq its.toArray n } ∧ xs.length ≤ sizeLine := by
  obtain ⟨z, its, n, r, e⟩ := I.hok p _ h
  exact ⟨its, n, r, e, z⟩
/-- the list at p is written by an update of its object -/
theorem Inv.lstUpd {pins : List (Addr × Obj)} {σ : St} {H : Hp} {s : Shared} {p : Addr} {xs ys : List V} {its its' : List Value} {n n' : Nat} {f : Obj → Obj} (I : Inv X pins σ H s) (h : H p = some (.lst xs))
    (ho : s.heap.get? p = some { cls := .type "list", data := .seq its.toArray n }) (hf : f { cls := .type "list", data := .seq its.toArray n } = { cls := .type "list", data := .seq its'.toArray n' }) (r : Vals ys its') (hz : ys.length ≤ sizeLine) (t : Nat) :
    Inv X pins σ (upd H p (.lst ys)) { s with heap := s.heap.update p f, toks := t } := by
  have e : (s.heap.update p f).get? p = some { cls := .type "list", data := .seq its'.toArray n' } := by
    rw [Heap.get?_update_self f ho (by rw [hf] <;> rfl), hf]
  refine I.write (x := p) (e := p) (by rw [h]; trivial) (.inl rfl) (fun b u hb q => (Heap.get?_update_other _ _ (Ne.symm hb)).trans q) ⟨_, e⟩ ?_
  exact ⟨hz, its', n', r, e⟩
def rSetL : V → V → V → Hp → (Hp → Prop) → Prop := fun o i v H Q => ∃ p xs k j, o = .ref p ∧ i = .int k ∧ H p = some (.lst xs) ∧ ixN xs.length k = some j ∧ Q (upd H p (.lst (xs.set j v)))
theorem set_list : PSet X rSetL := by
  intro pins s σ H o i v ov iv u Q I ro ri rv h
  obtain ⟨p, xs, k, j, rfl, rfl, hp, hj, q⟩ := h
  cases ro
  obtain ⟨t, rfl⟩ := ri
  obtain ⟨its, n, r, ho, hz⟩ := I.lst hp
  obtain ⟨h1, h2, h3, h4⟩ := ixN_seq hj
  have hl := r.length
  have hn := line63
  have I' : Inv X pins σ (upd H p (.lst (xs.set j v))) { s with heap := s.heap.update p (Obj.mapSeq (·.setIfInBounds j u)) } :=
    I.lstUpd hp ho (mapSeq_set its n j u) (r.set rv j) (by rw [List.length_set]; exact hz) s.toks
  by_cases h0 : 0 ≤ k
  · have hk : k.toNat = j := by
      rw [seqIndex_of h0 h4] at h1
      exact Option.some.inj h1
    exact PySem.W.ki_setAt ho h0 (by omega) (by rw [List.size_toArray, ← hl]; exact h4) (by rw [hk]; exact ⟨_, I', q⟩)
  · have hk : (k + (its.toArray.size : Int)).toNat = j := by
      rw [seqIndex_neg (by omega) h3] at h1
      rw [List.size_toArray, ← hl]
      exact Option.some.inj h1
    exact PySem.W.ki_setBack ho (by omega) (by rw [List.size_toArray, ← hl]; exact h3) (by omega) (by rw [hk]; exact ⟨_, I', q⟩)

/-! ### slices -/
theorem slice_bounds (lo hi : Option Int) (n : Nat) : (sliceBounds lo hi none n).1 = ((HT.sIx n 0 lo : Nat) : Int) ∧ (sliceBounds lo hi none n).2.1 = ((HT.sIx n n hi : Nat) : Int) ∧ (sliceBounds lo hi none n).2.2 = 1 := by
  refine ⟨?_, ?_, rfl⟩
  · cases lo with
    | none => simp [sliceBounds, HT.sIx]
    | some i =>
      simp only [sliceBounds, HT.sIx, Option.getD_none, show (1 : Int) > 0 by decide, if_true]
      by_cases h : i < 0
      · simp only [h, if_true] <;> omega
      · simp only [h, if_false] <;> omega
  · cases hi with
    | none => simp [sliceBounds, HT.sIx]
    | some i =>
      simp only [sliceBounds, HT.sIx, Option.getD_none, show (1 : Int) > 0 by decide, if_true]
      by_cases h : i < 0
      · simp only [h, if_true] <;> omega
      · simp only [h, if_false] <;> omega
theorem slicePick_cut (its : List Value) (lo hi : Option Int) : slicePick its.toArray lo hi none = ((its.drop (HT.sIx its.length 0 lo)).take (HT.sIx its.length its.length hi - HT.sIx its.length 0 lo)).toArray := by
  obtain ⟨h1, h2, h3⟩ := slice_bounds lo hi its.toArray.size
  unfold slicePick
  rw [h1, h2, h3]
  simp only [sliceRange_one, pick_run, List.size_toArray] <;> rfl
/-- xs[lo:hi] of a list: a new list -/
def rSlL (K : PySem.W.Frag) : V → Option Int → Option Int → Hp → VK → Prop := fun x lo hi H Q => ∃ a xs, x = .ref a ∧ SqL K H a xs ∧ ∀ p, H p = none → Q (.ref p) (upd H p (.lst (cutV xs lo hi)))
theorem sl_list : SlR X (rSlL X.K) := by
  intro pins s σ H x v vl vu lo hi sl Q I rx hs pl pu h
  obtain ⟨a, xs, rfl, hx, q⟩ := h
  cases rx
  obtain ⟨its, r, ht, hz⟩ := I.list hx
  have hlen := r.length
  refine ⟨"list", _, slot_list_getitem.lookup, ht.isList.typeIs, ?_⟩
  refine wpAny_getItem_list_slice ht.isList hs pl pu .none (by simp) ?_ (by rw [List.size_toArray] <;> omega)
  rw [slicePick_cut, ← hlen]
  refine ⟨.ref s.heap.objs.size, _, I.laid (t' := s.toks) (o := .lst (cutV xs lo hi)) (fun b ob q => Heap.get?_push_of_some _ q) (Nat.le_refl _) ?_, rfl, q _ (I.hok.fresh (Nat.le_refl _))⟩
  exact ⟨Nat.le_trans (cutV_length xs lo hi) hz, _, 0, (r.drop (HT.sIx xs.length 0 lo)).take (HT.sIx xs.length xs.length hi - HT.sIx xs.length 0 lo), Heap.get?_push_size _ rfl⟩

/-! ### in, not in: flat items -/
def flatV : V → Bool
  | .non => true
  | .bl _ => true
  | .int _ => true
  | .str _ => true
  | _ => false
/-- == of flat values -/
def eqV : V → V → Bool
  | .non, .non => true
  | .bl a, .bl b => a == b
  | .bl a, .int b => (if a then 1 else 0) == b
  | .int a, .bl b => a == (if b then 1 else 0)
  | .int a, .int b => a == b
  | .str a, .str b => a == b
  | _, _ => false
theorem eqAt_V {A : Around} {s : Shared} {y x : V} {u v : Value} (ry : RelV y u) (rx : RelV x v) (fy : flatV y = true) (fx : flatV x = true) : SeqAt.EqAt A s u v (eqV y x) := by
  cases y with
  | non =>
    cases ry
    cases x with
    | non => cases rx; exact SeqAt.EqAt.same _
    | bl b => cases rx; exact SeqAt.EqAt.none_bool b
    | int b => obtain ⟨t, rfl⟩ := rx; exact SeqAt.EqAt.none_int b t
    | str b => obtain ⟨t, rfl⟩ := rx; exact SeqAt.EqAt.none_str b t
    | _ => exact absurd (show false = true from fx) Bool.false_ne_true
  | bl a =>
    cases ry
    cases x with
    | non => cases rx; exact SeqAt.EqAt.bool_none a
    | bl b => cases rx; exact SeqAt.EqAt.bool_bool a b
    | int b => obtain ⟨t, rfl⟩ := rx; exact SeqAt.EqAt.bool_int a b t
    | str b => obtain ⟨t, rfl⟩ := rx; exact SeqAt.EqAt.bool_str a b t
    | _ => exact absurd (show false = true from fx) Bool.false_ne_true
  | int a =>
    obtain ⟨t', rfl⟩ := ry
    cases x with
    | non => cases rx; exact SeqAt.EqAt.int_none a t'
    | bl b => cases rx; exact SeqAt.EqAt.int_bool a t' b
    | int b => obtain ⟨t, rfl⟩ := rx; exact SeqAt.EqAt.int_int a t' b t
    | str b => obtain ⟨t, rfl⟩ := rx; exact SeqAt.EqAt.int_str a t' b t
    | _ => exact absurd (show false = true from fx) Bool.false_ne_true
  | str a =>
    obtain ⟨t', rfl⟩ := ry
    cases x with
    | non => cases rx; exact SeqAt.EqAt.str_none a t'
    | bl b => cases rx; exact SeqAt.EqAt.str_bool a t' b
    | int b => obtain ⟨t, rfl⟩ := rx; exact SeqAt.EqAt.str_int a t' b t
    | str b => obtain ⟨t, rfl⟩ := rx; exact SeqAt.EqAt.str_str a t' b t
    | _ => exact absurd (show false = true from fx) Bool.false_ne_true
  | _ => exact absurd (show false = true from fy) Bool.false_ne_true
/-- the items' answers, read off the values (a value's own answer does not lean on its token) -/
def eqU (x : V) (u : Value) : Bool := match u with
  | .none => eqV .non x
  | .bool b => eqV (.bl b) x
  | .int i _ => eqV (.int i) x
  | .str z _ => eqV (.str z) x
  | _ => false
theorem eqU_of {x y : V} {u : Value} (r : RelV y u) (f : flatV y = true) : eqU x u = eqV y x := by
  cases y with
  | non => cases r; rfl
  | bl b => cases r; rfl
  | int i => obtain ⟨t, rfl⟩ := r; rfl
  | str z => obtain ⟨t, rfl⟩ := r; rfl
  | _ => exact absurd (show false = true from f) Bool.false_ne_true
theorem any_eqU {x : V} : ∀ {xs : List V} {us : List Value}, Vals xs us → xs.all flatV = true → us.any (eqU x) = xs.any fun y => eqV y x
  | _, _, .nil, _ => rfl
  | y :: xs, u :: us, .cons r t, f => by
    rw [List.all_cons, Bool.and_eq_true] at f
    rw [List.any_cons, List.any_cons, eqU_of r f.1, any_eqU t f.2]
theorem mem_eqAt {A : Around} {s : Shared} {x : V} {v : Value} (rx : RelV x v) (fx : flatV x = true) : ∀ {xs : List V} {us : List Value}, Vals xs us → xs.all flatV = true → ∀ u ∈ us, SeqAt.EqAt A s u v (eqU x u)
  | _, _, .nil, _ => fun u hu => by cases hu
  | y :: xs, u :: us, .cons r t, f => fun u' hu => by
    rw [List.all_cons, Bool.and_eq_true] at f
    rcases List.mem_cons.mp hu with rfl | hu
    · rw [eqU_of r f.1]; exact eqAt_V r rx f.1 fx
    · exact mem_eqAt rx fx t f.2 u' hu
def inV (x : V) (xs : List V) : Bool := xs.any fun y => eqV y x
/-- x in a list or tuple of flat items -/
def rIn (K : PySem.W.Frag) (neg : Bool) : R2 := fun x y H Q => ∃ p xs, y = .ref p ∧ (SqL K H p xs ∨ SqT K H p xs) ∧ flatV x = true ∧ xs.all flatV = true ∧ Q (.bl (if neg then !inV x xs else inV x xs)) H
theorem op_in_seq : OpR X (compareOp .In) (rIn X.K false) := by
  intro pins s σ H x y v u Q I rx ry h
  obtain ⟨p, xs, rfl, hq, fx, fs, q⟩ := h
  cases ry
  rcases hq with hq | hq
  · obtain ⟨its, r, pl, hz⟩ := I.list hq
    refine SeqAt.in_listAt (eqU x) pl.isList (fun w hw => mem_eqAt rx fx r fs w (by simpa using hw)) ⟨.bl _, H, I, rfl, ?_⟩
    rw [show its.toArray.any (eqU x) = its.any (eqU x) by simp, any_eqU r fs]
    exact q
  · obtain ⟨its, r, pl, hz⟩ := I.tuple hq
    refine SeqAt.in_tupleAt (eqU x) pl (fun w hw => mem_eqAt rx fx r fs w (by simpa using hw)) ⟨.bl _, H, I, rfl, ?_⟩
    rw [show its.toArray.any (eqU x) = its.any (eqU x) by simp, any_eqU r fs]
    exact q
theorem op_notIn_seq : OpR X (compareOp .NotIn) (rIn X.K true) := by
  intro pins s σ H x y v u Q I rx ry h
  obtain ⟨p, xs, rfl, hq, fx, fs, q⟩ := h
  cases ry
  rcases hq with hq | hq
  · obtain ⟨its, r, pl, hz⟩ := I.list hq
    refine SeqAt.notIn_listAt (eqU x) pl.isList (fun w hw => mem_eqAt rx fx r fs w (by simpa using hw)) ⟨.bl _, H, I, rfl, ?_⟩
    rw [show its.toArray.any (eqU x) = its.any (eqU x) by simp, any_eqU r fs]
    exact q
  · obtain ⟨its, r, pl, hz⟩ := I.tuple hq
    refine SeqAt.notIn_tupleAt (eqU x) pl (fun w hw => mem_eqAt rx fx r fs w (by simpa using hw)) ⟨.bl _, H, I, rfl, ?_⟩
    rw [show its.toArray.any (eqU x) = its.any (eqU x) by simp, any_eqU r fs]
    exact q
theorem op_notIn_str : OpR X (compareOp .NotIn) (fun x y H Q => ∃ i j, x = .str i ∧ y = .str j ∧ Q (.bl (!(!(Builtin.Str.occurrences j i 0 j.length 1).isEmpty))) H) := by
  intro pins s σ H x y v u Q I rx ry h
  obtain ⟨i, j, rfl, rfl, q⟩ := h
  obtain ⟨t, rfl⟩ := rx
  obtain ⟨t', rfl⟩ := ry
  exact notIn_str ⟨.bl _, H, I, rfl, q⟩

/-! ### len, list(x), tuple(x) of any list or tuple that is read -/
theorem call_len_seq : CallR X (.builtin "len") (fun xs H Q => ∃ p ys, xs = [.ref p] ∧ (SqL X.K H p ys ∨ SqT X.K H p ys) ∧ Q (.int ys.length) H) := by
  intro pins s σ H xs us Q I r h
  obtain ⟨p, ys, rfl, hq, q⟩ := h
  obtain ⟨u, rfl, rx⟩ := vals1 r
  cases rx
  have hn := line63
  rcases hq with hq | hq
  · obtain ⟨its, r', pl, hz⟩ := I.list hq
    have hlen := r'.length
    exact Calls.call_len_list pl.isList (by simp only [List.size_toArray] <;> omega) ⟨.int ys.length, H, I.tok _, ⟨s.toks + 1, by rw [List.size_toArray, hlen]⟩, q⟩
  · obtain ⟨its, r', pl, hz⟩ := I.tuple hq
    have hlen := r'.length
    exact len_tuple pl (by simp only [List.size_toArray] <;> omega) ⟨.int ys.length, H, I.tok _, ⟨s.toks + 1, by rw [List.size_toArray, hlen]⟩, q⟩
theorem call_len_str : CallR X (.builtin "len") (fun xs H Q => ∃ z, xs = [.str z] ∧ z.length ≤ sizeLine ∧ Q (.int z.length) H) := by
  intro pins s σ H xs us Q I r h
  obtain ⟨z, rfl, hz, q⟩ := h
  obtain ⟨u, rfl, t, rfl⟩ := vals1 r
  have hn := line63
  exact len_str (by omega) ⟨.int z.length, H, I.tok _, ⟨_, rfl⟩, q⟩
theorem CallR.or {f : Value} {r r' : List V → Hp → VK → Prop} (h : CallR X f r) (h' : CallR X f r') : CallR X f (fun xs H Q => r xs H Q ∨ r' xs H Q) := by
  intro pins s σ H xs us Q I rs q
  rcases q with q | q
  · exact h pins s σ H xs us Q I rs q
  · exact h' pins s σ H xs us Q I rs q
theorem call_list_of : CallR X (.type "list") (fun xs H Q => ∃ p ys, xs = [.ref p] ∧ (SqL X.K H p ys ∨ SqT X.K H p ys) ∧ ∀ l, H l = none → Q (.ref l) (upd H l (.lst ys))) := by
  intro pins s σ H xs us Q I r h
  obtain ⟨p, ys, rfl, hq, q⟩ := h
  obtain ⟨u, rfl, rx⟩ := vals1 r
  cases rx
  have fin : ∀ (its : List Value), Vals ys its → ys.length ≤ sizeLine → ∀ (h' : Heap) (c' : Nat), (∀ b o', s.heap.get? b = some o' → h'.get? b = some o') →
      h'.get? s.heap.objs.size = some { cls := .type "list", dict := none, data := .seq its.toArray c', slots := #[] } → EP X pins σ Q (.ref s.heap.objs.size) { s with heap := h' } := fun its r' hz h' c' kp e =>
    ⟨.ref s.heap.objs.size, _, I.laid (t' := s.toks) kp (Nat.le_refl _) (show ObjOk X.prog X.w _ h' _ (.lst ys) from ⟨hz, its, c', r', e⟩), rfl, q _ (I.hok.fresh (Nat.le_refl _))⟩
  rcases hq with hq | hq
  · obtain ⟨its, r', pl, hz⟩ := I.list hq
    have hlen := r'.length
    obtain ⟨o, ho, hc, n, hd⟩ := pl.isList
    exact call_list_seq p (.inl rfl) ho hc hd (fun h' c' kp e => fin its r' hz h' c' kp e) (by simp only [List.size_toArray] <;> omega)
  · obtain ⟨its, r', pl, hz⟩ := I.tuple hq
    have hlen := r'.length
    obtain ⟨o, ho, hc, n, hd⟩ := pl
    exact call_list_seq p (.inr rfl) ho hc hd (fun h' c' kp e => fin its r' hz h' c' kp e) (by simp only [List.size_toArray] <;> omega)
theorem call_tuple_of : CallR X (.type "tuple") (fun xs H Q => ∃ p ys, xs = [.ref p] ∧ ((SqL X.K H p ys ∧ ∀ l, H l = none → Q (.ref l) (upd H l (.tup ys))) ∨ (SqT X.K H p ys ∧ Q (.ref p) H))) := by
  intro pins s σ H xs us Q I r h
  obtain ⟨p, ys, rfl, h⟩ := h
  obtain ⟨u, rfl, rx⟩ := vals1 r
  cases rx
  rcases h with ⟨hq, q⟩ | ⟨hq, q⟩
  · obtain ⟨its, r', pl, hz⟩ := I.list hq
    have hlen := r'.length
    refine call_tuple_list pl.isList (fun h' kp => ?_) (by simp only [List.size_toArray] <;> omega)
    have I1 : Inv X pins σ H { s with heap := h' } := I.kept (t' := s.toks) kp
    have I2 : Inv X pins σ (upd H h'.objs.size (.tup ys)) { s with heap := h'.push { cls := .type "tuple", data := .seq its.toArray } } :=
      I1.laid (t' := s.toks) (fun b o e => Heap.get?_push_of_some _ e) (Nat.le_refl _) (show ObjOk X.prog X.w _ _ _ (.tup ys) from ⟨hz, its, r', IsTup.new _ _⟩)
    exact ⟨.ref h'.objs.size, _, I2, rfl, q _ (I1.hok.fresh (Nat.le_refl _))⟩
  · obtain ⟨its, r', pl, hz⟩ := I.tuple hq
    exact call_tuple_same pl ⟨.ref p, H, I, rfl, q⟩

/-! ### the call of a builtin's method: o.m(..) -/
/-- the value is of that builtin type -/
def tyV (K : PySem.W.Frag) (T : String) (x : V) (H : Hp) : Prop := match x with
  | .str _ => T = "str"
  | .int _ => T = "int"
  | .ref p => (T = "list" ∧ ∃ xs, SqL K H p xs) ∨ (T = "tuple" ∧ ∃ o, K.lookup p = some o ∧ o.cls = .type "tuple" ∧ o.dict = none) ∨
      (T = "dict" ∧ ((∃ kvs, H p = some (.dK kvs)) ∨ ∃ kvs, H p = some (.dT kvs))) ∨ (T = "set" ∧ ∃ S n, H p = some (.set S n))
  | _ => False
theorem tyV_is {pins : List (Addr × Obj)} {σ : St} {H : Hp} {s : Shared} {T : String} {x : V} {v : Value} (I : Inv X pins σ H s) (r : RelV x v) (ty : tyV X.K T x H) :
    s.TypeIs v T ∧ ∀ a, v = .ref a → ∃ ob, s.heap.get? a = some ob ∧ ob.dict = none := by
  cases x with
  | str z =>
    obtain ⟨t, rfl⟩ := r
    cases (show T = "str" from ty)
    exact ⟨typeIs_str s z t, fun _ e => nomatch e⟩
  | int i =>
    obtain ⟨t, rfl⟩ := r
    cases (show T = "int" from ty)
    exact ⟨typeIs_int s i t, fun _ e => nomatch e⟩
  | ref p =>
    cases r
    rcases ty with ⟨rfl, xs, hq⟩ | ⟨rfl, o, hk, hc, hd⟩ | ⟨rfl, hk⟩ | ⟨rfl, S, n, hk⟩
    · obtain ⟨its, _, pl, _⟩ := I.list hq
      refine ⟨pl.isList.typeIs, fun a e => ?_⟩
      cases e
      obtain ⟨o, n, e, c, hd, _⟩ := pl
      exact ⟨o, e, hd⟩
    · refine ⟨⟨o, I.kIn p o hk, hc⟩, fun a e => ?_⟩
      cases e
      exact ⟨o, I.kIn _ o hk, hd⟩
    · have z : ∃ o, s.heap.get? p = some o ∧ o.ExactDict := by
        rcases hk with ⟨kvs, hk⟩ | ⟨kvs, hk⟩
        · obtain ⟨_, _, _, _, o, _, _, e, ex, _⟩ := I.hok p _ hk
          exact ⟨o, e, ex⟩
        · obtain ⟨_, _, _, _, o, _, _, e, ex, _⟩ := I.hok p _ hk
          exact ⟨o, e, ex⟩
      obtain ⟨o, e, ex⟩ := z
      refine ⟨⟨o, e, ex.1⟩, fun a e2 => ?_⟩
      cases e2
      exact ⟨o, e, ex.2.1⟩
    · obtain ⟨o, _, _, _, e, ex, _⟩ := I.hok p _ hk
      refine ⟨⟨o, e, ex.1⟩, fun a e2 => ?_⟩
      cases e2
      exact ⟨o, e, ex.2.1⟩
  | _ => exact False.elim ty
def tBM0 (K : PySem.W.Frag) (T : String) (r : V → List V → Hp → VK → Prop) (to : TE) : TE := fun σ H Q => to σ H fun x H1 => tyV K T x H1 ∧ r x [] H1 Q
def tBM (K : PySem.W.Frag) (T : String) (r : V → List V → Hp → VK → Prop) (to : TE) (t : TA) : TE := fun σ H Q => to σ H fun x H1 => tyV K T x H1 ∧ t σ H1 fun xs H2 => r x xs H2 Q
variable {o e : Expr} {es : List Expr} {to : TE} {t : TA} {name : Str} {apos cpos : Pos} {T id : String} {r : V → List V → Hp → VK → Prop}
theorem pe_bm0 (pa : PlainAttrs T) (slot : Slot T name id) (hty : typeOf (.builtin id) = pure (.type "method_descriptor")) (hm : MtR X id r) (ho : PE X o to)
    (hbase : attributeBase o name X.env (eval o X.env) = eval o X.env := by rfl) (hline : (apos.endLine == cpos.line) = true := by rfl) : PE X (.Call (.Attribute o name apos) [] [] cpos) (tBM0 X.K T r to) := by
  intro pins s σ H Q I h
  refine wpAny_Call_method0_late hbase hline (thn (ho pins s σ H _ I h) fun v s1 ⟨x, H1, I1, r1, ty, q1⟩ => ?_)
  obtain ⟨h1, h2⟩ := tyV_is I1 r1 ty
  exact ⟨T, id, pa, slot, hty, h1, h2, Calls.callWith_builtin rfl (PySem.evalArgs_none (hm pins s1 σ H1 x [] v [] Q I1 r1 .nil q1))⟩
theorem pe_bm (pa : PlainAttrs T) (slot : Slot T name id) (hty : typeOf (.builtin id) = pure (.type "method_descriptor")) (hm : MtR X id r) (ho : PE X o to) (ha : PA X (e :: es) t)
    (hbase : attributeBase o name X.env (eval o X.env) = eval o X.env := by rfl)
    (hfew : ((backTo cpos (starEach (e :: es) X.env)).all (fun x => !x.1) && (backToKw cpos (keywordEach [] X.env)).all (fun x => x.1.isSome)
      && decide ((e :: es).length + ([] : List Keyword).length + (if ([] : List Keyword).isEmpty then 0 else 1) < 30)) = true := by rfl)
    (hline : (apos.endLine == cpos.line) = true := by rfl) (hs : starEach (e :: es) X.env = (false, eval e X.env) :: starEach es X.env := by rfl) (hplain : (backTo cpos (starEach es X.env)).any (·.1) = false := by rfl) :
    PE X (.Call (.Attribute o name apos) (e :: es) [] cpos) (tBM X.K T r to t) := by
  intro pins s σ H Q I h
  refine wpAny_Call_method_late hbase hfew hline rfl (thn (ho pins s σ H _ I h) fun v s1 ⟨x, H1, I1, r1, ty, q1⟩ => ?_)
  obtain ⟨h1, h2⟩ := tyV_is I1 r1 ty
  refine ⟨T, id, pa, slot, hty, h1, h2, ?_⟩
  have hA := ha cpos pins s1 σ H1 _ I1 q1
  rw [hs] at hA ⊢
  refine Calls.callWith_builtin (by show (false || (backTo cpos (starEach es X.env)).any (·.1)) = false; rw [hplain] <;> rfl) (Calls.evalArgs_plain ?_)
  exact thn hA fun us s2 ⟨vs, H2, I2, r2, q2⟩ => hm pins s2 σ H2 x vs v us Q I2 r1 r2 q2
/- xs.append(e), list.index on a module's tuple .. are MtR facts of 06m -/
end
end L2

namespace L2
open PySem PySem.Spec PyProof.Rows

def MtM (X : Cx) (id : String) (r : V → List V → Hp → VK → Prop) : Prop :=
  ∀ (pins : List (Addr × Obj)) (s : Shared) (σ : St) (H : Hp) (x : V) (xs : List V) (v : Value) (us : List Value) (Q : VK), Inv X pins σ H s → RelV x v → Vals xs us → r x xs H Q →
    wpAny (model X.prog X.w) X.A (call (.builtin id) (v :: us)) (EP X pins σ Q) X.xe s

/-! ### lists of values -/
theorem Vals.one : ∀ {x : V} {us : List Value}, Vals [x] us → ∃ u, us = [u] ∧ RelV x u
  | _, _, .cons r .nil => ⟨_, rfl, r⟩
theorem Vals.two : ∀ {x y : V} {us : List Value}, Vals [x, y] us → ∃ u v, us = [u, v] ∧ RelV x u ∧ RelV y v
  | _, _, _, .cons r (.cons q .nil) => ⟨_, _, rfl, r, q⟩
theorem Vals.zero : ∀ {us : List Value}, Vals [] us → us = []
  | _, .nil => rfl
theorem Vals.dropLast {xs : List V} {us : List Value} (h : Vals xs us) : Vals xs.dropLast us.dropLast := by
  induction h with
  | nil => exact .nil
  | cons r t ih =>
    cases t with
    | nil => exact .nil
    | cons q t' => exact .cons r ih
theorem Vals.eraseIdx : ∀ {xs : List V} {us : List Value} (i : Nat), Vals xs us → Vals (xs.eraseIdx i) (us.eraseIdx i)
  | _, _, _, .nil => .nil
  | _, _, 0, .cons _ t => t
  | _, _, i + 1, .cons r t => .cons r (Vals.eraseIdx i t)
theorem Vals.reverse {xs : List V} {us : List Value} (h : Vals xs us) : Vals xs.reverse us.reverse := by
  induction h with
  | nil => exact .nil
  | cons r t ih => rw [List.reverse_cons, List.reverse_cons]; exact Vals.append ih (.cons r .nil)
theorem Vals.rep {xs : List V} {us : List Value} (h : Vals xs us) : ∀ k : Nat, Vals (List.replicate k xs).flatten (List.replicate k us).flatten
  | 0 => .nil
  | k + 1 => by
    rw [List.replicate_succ, List.replicate_succ, List.flatten_cons, List.flatten_cons]
    exact Vals.append h (Vals.rep h k)
theorem erase_last {α : Type} (l : List α) : l.eraseIdx (l.length - 1) = l.dropLast := by
  induction l with
  | nil => rfl
  | cons a r ih =>
    cases r with
    | nil => rfl
    | cons b r =>
      have e : (a :: b :: r).length - 1 = ((b :: r).length - 1) + 1 := by
        have h1 : (a :: b :: r).length = r.length + 2 := rfl
        have h2 : (b :: r).length = r.length + 1 := rfl
        omega
      rw [e, List.eraseIdx_cons_succ, ih]
      all_goals rfl
theorem len_erase {α : Type} : ∀ (l : List α) (i : Nat), (l.eraseIdx i).length ≤ l.length
  | [], _ => Nat.le_refl _
  | _ :: _, 0 => Nat.le_succ _
  | _ :: r, i + 1 => Nat.succ_le_succ (len_erase r i)
theorem foldl_rep (its : List Value) : ∀ (k : Nat) (acc : List Value),
    List.foldl (fun x1 x2 => x1 ++ x2) acc.toArray (List.replicate k its.toArray) = (acc ++ (List.replicate k its).flatten).toArray
  | 0, acc => by simp
  | k + 1, acc => by
    have e : acc.toArray ++ its.toArray = (acc ++ its).toArray := by simp
    have e2 : (acc ++ its) ++ (List.replicate k its).flatten = acc ++ (List.replicate (k + 1) its).flatten := by
      rw [List.replicate_succ, List.flatten_cons, List.append_assoc]
    rw [← e2, ← foldl_rep its k (acc ++ its), ← e, List.replicate_succ, List.foldl_cons]

section
variable {X : Cx} {pins : List (Addr × Obj)} {σ : St} {H : Hp} {s : Shared} {l b : Addr} {xs ys zs : List V}

/-! ### the two steps: a tracked list is rewritten, a new list is laid -/
theorem Inv.lset {its its' : List Value} {n : Nat} {f : Array Value → Array Value} {t' : Nat} (I : Inv X pins σ H s) (hH : H l = some (.lst xs))
    (e : s.heap.get? l = some { cls := .type "list", data := .seq its.toArray n }) (hf : f its.toArray = its'.toArray) (hv : Vals ys its') (hz : ys.length ≤ sizeLine) :
    Inv X pins σ (upd H l (.lst ys)) { s with heap := s.heap.update l (Obj.mapSeq f), toks := t' } := by
  have q := PySem.IsL.update e f
  rw [hf] at q
  refine I.write (x := l) (e := l) (by rw [hH]; exact trivial) (.inl rfl) (fun b' u hb hu => (Heap.get?_update_other s.heap (Obj.mapSeq f) (Ne.symm hb)).trans hu) ⟨_, q⟩ ?_
  exact ⟨hz, its', _, hv, q⟩
theorem Inv.lnew {its : List Value} {t' : Nat} (I : Inv X pins σ H s) (hv : Vals ys its) (hz : ys.length ≤ sizeLine) :
    Inv X pins σ (upd H s.heap.objs.size (.lst ys)) { s with heap := s.heap.push { cls := .type "list", data := .seq its.toArray }, toks := t' } :=
  I.laid (fun _ _ q => Heap.get?_push_of_some _ q) (Nat.le_refl _) ⟨hz, its, 0, hv, Heap.get?_push_size _ rfl⟩
theorem Inv.fresh (I : Inv X pins σ H s) : H s.heap.objs.size = none := I.hok.fresh (Nat.le_refl _)
theorem Inv.lstM (I : Inv X pins σ H s) (hH : H l = some (.lst xs)) : xs.length ≤ sizeLine ∧ ∃ (its : List Value) (n : Nat), Vals xs its ∧ xs.length = its.length ∧ s.heap.get? l = some { cls := .type "list", data := .seq its.toArray n } := by
  obtain ⟨z, its, n, r, e⟩ := I.hok l _ hH
  exact ⟨z, its, n, r, r.length, e⟩

theorem notLongL {n : Nat} (h : n ≤ sizeLine) : Builtin.List.listTooLong n = false := by
  unfold Builtin.List.listTooLong
  exact decide_eq_false (by omega)
end

section
variable {X : Cx}

/-! ### methods -/
def rAppend : V → List V → Hp → VK → Prop := fun x vs H Q => ∃ l xs y, x = .ref l ∧ vs = [y] ∧ H l = some (.lst xs) ∧ xs.length < sizeLine ∧ Q .non (upd H l (.lst (xs ++ [y])))
theorem mt_append : MtM X "list.append" rAppend := by
  intro pins s σ H x vs v us Q I rx rv h
  obtain ⟨l, xs, y, rfl, rfl, hH, hz, q⟩ := h
  cases rx
  obtain ⟨u, rfl, ru⟩ := rv.one
  obtain ⟨z, its, n, r, hl, e⟩ := I.lstM hH
  refine call_meets F.slot_list_append ⟨_, e, rfl⟩ F.entry_list_append (F.args_list_append_2 _ _) (PySem.list_append l its.toArray n u (by rw [List.size_toArray]; omega)) ⟨e, ?_⟩
  refine ⟨.non, _, I.lset (its' := its ++ [u]) hH e (by simp) (r.append (.cons ru .nil)) ?_, rfl, q⟩
  rw [List.length_append, List.length_singleton]
  omega

def rExtend : V → List V → Hp → VK → Prop := fun x vs H Q => ∃ l b xs zs, x = .ref l ∧ vs = [.ref b] ∧ H l = some (.lst xs) ∧ H b = some (.lst zs) ∧ xs.length + zs.length ≤ sizeLine ∧ Q .non (upd H l (.lst (xs ++ zs)))
theorem mt_extend : MtM X "list.extend" rExtend := by
  intro pins s σ H x vs v us Q I rx rv h
  obtain ⟨l, b, xs, zs, rfl, rfl, hH, hB, hz, q⟩ := h
  cases rx
  obtain ⟨u, rfl, ru⟩ := rv.one
  cases ru
  obtain ⟨z, its, n, r, hl, e⟩ := I.lstM hH
  obtain ⟨z2, its2, n2, r2, hl2, e2⟩ := I.lstM hB
  have hsz : its.toArray.size + its2.toArray.size ≤ sizeLine := by rw [List.size_toArray, List.size_toArray]; omega
  have hlong : ¬ (!its.toArray.isEmpty && Builtin.List.listTooLong (its.toArray.size + its2.toArray.size)) = true := by
    rw [notLongL hsz, Bool.and_false]
    exact Bool.false_ne_true
  refine call_meets F.slot_list_extend ⟨_, e, rfl⟩ F.entry_list_extend (F.args_list_extend_2 _ _)
    (AutoSeq1.list_extend_list_list_0 l its.toArray n b its2.toArray n2 hlong (by rw [List.size_toArray]; omega) (by omega)) ⟨e, e2, ?_⟩
  refine ⟨.non, _, I.lset (its' := its ++ its2) hH e (by simp) (r.append r2) ?_, rfl, q⟩
  rw [List.length_append]
  omega

def rPop : V → List V → Hp → VK → Prop := fun x vs H Q => ∃ l xs y, x = .ref l ∧ vs = [] ∧ H l = some (.lst xs) ∧ xs[xs.length - 1]? = some y ∧ Q y (upd H l (.lst xs.dropLast))
theorem mt_pop : MtM X "list.pop" rPop := by
  intro pins s σ H x vs v us Q I rx rv h
  obtain ⟨l, xs, y, rfl, rfl, hH, hy, q⟩ := h
  cases rx
  have hus := rv.zero
  subst hus
  obtain ⟨z, its, n, r, hl, e⟩ := I.lstM hH
  obtain ⟨u, hu, ru⟩ := r.get hy
  have hy' : its.toArray[its.toArray.size - 1]? = some u := by
    show its.toArray[its.length - 1]? = some u
    rw [← Array.getElem?_toList, ← hl]
    exact hu
  refine call_meets F.slot_list_pop ⟨_, e, rfl⟩ F.entry_list_pop (F.args_list_pop_1 _) (MeetsSeq.list_pop_last l its.toArray n u hy' (by rw [List.size_toArray]; omega)) ⟨e, ?_⟩
  refine ⟨y, _, I.lset (its' := its.dropLast) hH e ?_ r.dropLast ?_, ru, q⟩
  · show its.toArray.eraseIdxIfInBounds (its.toArray.size - 1) = its.dropLast.toArray
    rw [List.size_toArray, List.eraseIdxIfInBounds_toArray, erase_last]
  · rw [List.length_dropLast]
    omega

def rPopAt : V → List V → Hp → VK → Prop := fun x vs H Q => ∃ l xs i k y, x = .ref l ∧ vs = [.int i] ∧ H l = some (.lst xs) ∧ -(2 ^ 63) ≤ i ∧ i < 2 ^ 63 ∧ seqIndex? i xs.length = some k ∧ xs[k]? = some y ∧ Q y (upd H l (.lst (xs.eraseIdx k)))
theorem mt_popAt : MtM X "list.pop" rPopAt := by
  intro pins s σ H x vs v us Q I rx rv h
  obtain ⟨l, xs, i, k, y, rfl, rfl, hH, h1, h2, hk, hy, q⟩ := h
  cases rx
  obtain ⟨u, rfl, ru⟩ := rv.one
  obtain ⟨t, rfl⟩ := ru
  obtain ⟨z, its, n, r, hl, e⟩ := I.lstM hH
  obtain ⟨w, hw, rw'⟩ := r.get hy
  refine call_meets F.slot_list_pop ⟨_, e, rfl⟩ F.entry_list_pop (F.args_list_pop_2 _ _)
    (MeetsSeq.list_pop_at l its.toArray n i t k w (fitsIndex_both h1 h2) (by rw [List.size_toArray, ← hl]; exact hk) (by rw [← Array.getElem?_toList]; exact hw) (by rw [List.size_toArray]; omega)) ⟨e, ?_⟩
  refine ⟨y, _, I.lset (its' := its.eraseIdx k) hH e ?_ (r.eraseIdx k) ?_, rw', q⟩
  · show its.toArray.eraseIdxIfInBounds k = (its.eraseIdx k).toArray
    rw [List.eraseIdxIfInBounds_toArray]
  · have := len_erase xs k
    omega

def rReverse : V → List V → Hp → VK → Prop := fun x vs H Q => ∃ l xs, x = .ref l ∧ vs = [] ∧ H l = some (.lst xs) ∧ Q .non (upd H l (.lst xs.reverse))
theorem mt_reverse : MtM X "list.reverse" rReverse := by
  intro pins s σ H x vs v us Q I rx rv h
  obtain ⟨l, xs, rfl, rfl, hH, q⟩ := h
  cases rx
  have hus := rv.zero
  subst hus
  obtain ⟨z, its, n, r, hl, e⟩ := I.lstM hH
  refine call_meets F.slot_list_reverse ⟨_, e, rfl⟩ F.entry_list_reverse (F.args_list_reverse_1 _) (AutoSeq1.list_reverse_list_0 l its.toArray n (by rw [List.size_toArray]; omega)) ⟨e, ?_⟩
  refine ⟨.non, _, I.lset (its' := its.reverse) hH e (by simp) r.reverse ?_, rfl, q⟩
  rw [List.length_reverse]
  omega

def rClear : V → List V → Hp → VK → Prop := fun x vs H Q => ∃ l xs, x = .ref l ∧ vs = [] ∧ H l = some (.lst xs) ∧ Q .non (upd H l (.lst []))
theorem mt_clear : MtM X "list.clear" rClear := by
  intro pins s σ H x vs v us Q I rx rv h
  obtain ⟨l, xs, rfl, rfl, hH, q⟩ := h
  cases rx
  have hus := rv.zero
  subst hus
  obtain ⟨z, its, n, r, hl, e⟩ := I.lstM hH
  refine call_meets F.slot_list_clear ⟨_, e, rfl⟩ F.entry_list_clear (F.args_list_clear_1 _) (AutoSeq1.list_clear_list_0 l its.toArray n (by rw [List.size_toArray]; omega)) ⟨e, ?_⟩
  exact ⟨.non, _, I.lset (its' := []) (ys := []) hH e rfl .nil (Nat.zero_le _), rfl, q⟩

/-! ### list + list, list += list, list * int -/
def rCat : R2 := fun x y H Q => ∃ l b xs zs, x = .ref l ∧ y = .ref b ∧ H l = some (.lst xs) ∧ H b = some (.lst zs) ∧ xs.length + zs.length ≤ sizeLine ∧ ∀ p, H p = none → Q (.ref p) (upd H p (.lst (xs ++ zs)))
theorem op_cat : OpR X (binaryOp .Add) rCat := by
  intro pins s σ H x y v u Q I rx ry h
  obtain ⟨l, b, xs, zs, rfl, rfl, hH, hB, hz, q⟩ := h
  cases rx
  cases ry
  obtain ⟨z, its, n, r, hl, e⟩ := I.lstM hH
  obtain ⟨z2, its2, n2, r2, hl2, e2⟩ := I.lstM hB
  refine PySem.P.add_list e e2 ?_ (by rw [List.size_toArray, List.size_toArray]; omega)
  have ea : its.toArray ++ its2.toArray = (its ++ its2).toArray := by simp
  rw [ea]
  exact ⟨.ref _, _, I.lnew (t' := s.toks) (r.append r2) (by rw [List.length_append]; omega), rfl, q _ I.fresh⟩
/-- a list times an int (a negative one is nothing) -/
def rRep : R2 := fun x y H Q => ∃ l k xs, x = .ref l ∧ y = .int k ∧ H l = some (.lst xs) ∧ -(2 ^ 63) ≤ k ∧ k < 2 ^ 63 ∧ xs.length * k.toNat ≤ sizeLine ∧
  ∀ p, H p = none → Q (.ref p) (upd H p (.lst (List.replicate k.toNat xs).flatten))
theorem len_rep {α : Type} (xs : List α) (k : Nat) : (List.replicate k xs).flatten.length = k * xs.length := by
  induction k with
  | zero => simp
  | succ k ih => rw [List.replicate_succ, List.flatten_cons, List.length_append, ih, Nat.succ_mul, Nat.add_comm]
theorem op_rep : OpR X (binaryOp .Mult) rRep := by
  intro pins s σ H x y v u Q I rx ry h
  obtain ⟨l, k, xs, rfl, rfl, hH, h1, h2, hz, q⟩ := h
  cases rx
  obtain ⟨t, rfl⟩ := ry
  obtain ⟨z, its, n, r, hl, e⟩ := I.lstM hH
  have hlen : its.toArray.size * k.toNat ≤ sizeLine := by rw [List.size_toArray, ← hl]; exact hz
  have hcap : ¬ its.toArray.size * k.toNat > (2 ^ 63 - 1) / 8 := by
    have : (sizeLine : Nat) ≤ (2 ^ 63 - 1) / 8 := by decide
    omega
  have hfit : ¬ (!Builtin.List.listFitsIndex k) = true := by
    rw [fitsIndex_both h1 h2]
    exact Bool.false_ne_true
  have hlong : ¬ Builtin.List.listTooLong (its.toArray.size * k.toNat) = true := by
    rw [notLongL hlen]
    exact Bool.false_ne_true
  have hnew : List.foldl (fun x1 x2 => x1 ++ x2) #[] (List.replicate (if its.toArray.isEmpty = true then 0 else k.toNat) its.toArray) = (List.replicate k.toNat its).flatten.toArray := by
    have f0 : ∀ m : Nat, List.foldl (fun x1 x2 => x1 ++ x2) #[] (List.replicate m its.toArray) = (List.replicate m its).flatten.toArray := fun m => by
      have := foldl_rep its m []
      rw [List.nil_append] at this
      exact this
    rw [f0]
    cases its with
    | nil => simp
    | cons a r' => rw [if_neg (by simp)]
  refine wpAny_binaryOp_repeat_ref (T := "list") (U := "int") (by decide) ⟨_, e, rfl⟩ (fun s' => typeIs_int s' k t) noFill_list_mul F.fills_int_mul F.slot_int_rmul repeat_list F.slot_int_index.lookup
    (call_meets F.slot_int_rmul (typeIs_int s k t) F.entry_int_rmul (F.args_int_rmul_2 _ _) (int___rmul___int_list k t l its.toArray n)
      ⟨e, rfl, ⟨_, e, rfl⟩, call_meets F.slot_list_mul ⟨_, e, rfl⟩ F.entry_list_mul (F.args_list_mul_2 _ _) (AutoListH.list___mul___list_int_3 l its.toArray n k t hfit hcap hlong) ⟨e, ?_⟩⟩)
  rw [hnew]
  exact ⟨.ref _, _, I.lnew (t' := s.toks) (r.rep k.toNat) (by rw [len_rep, Nat.mul_comm]; exact hz), rfl, q _ I.fresh⟩

/-! ### del xs[i] -/
theorem del_list {pins : List (Addr × Obj)} {s : Shared} {σ : St} {H : Hp} {l : Addr} {xs : List V} {i : Int} {t : Tok} {k : Nat} {Q : Unit → Shared → Prop} (I : Inv X pins σ H s) (hH : H l = some (.lst xs))
    (h1 : -(2 ^ 63) ≤ i) (h2 : i < 2 ^ 63) (hk : seqIndex? i xs.length = some k) (h : ∀ s', Inv X pins σ (upd H l (.lst (xs.eraseIdx k))) s' → Q () s') :
    wpAny (model X.prog X.w) X.A (delItem (.ref l) (.int i t)) Q X.xe s := by
  obtain ⟨z, its, n, r, hl, e⟩ := I.lstM hH
  refine PySem.P.delItem_list (k := k) e (fitsIndex_both h1 h2) (by rw [List.size_toArray, ← hl]; exact hk) (h _ ?_) (by rw [List.size_toArray]; omega)
  refine I.lset (its' := its.eraseIdx k) (t' := s.toks) hH e ?_ (r.eraseIdx k) ?_
  · show its.toArray.eraseIdxIfInBounds k = (its.eraseIdx k).toArray
    rw [List.eraseIdxIfInBounds_toArray]
  · have := len_erase xs k
    omega
end

/-! ### xs[a:b] = ys -/
section
variable {prog : Program} {w : World} {A : Around} {E : Value → Shared → Prop} {s : Shared}
theorem splice_eq (its its2 : List Value) (a c : Nat) : its.toArray.extract 0 a ++ its2.toArray ++ its.toArray.extract c its.toArray.size = (its.take a ++ its2 ++ its.drop c).toArray := by
  apply Array.toList_inj.mp
  first
    | (simp
       exact List.take_of_length_le (by simp))
    | simp [List.take_of_length_le]
    | simp
theorem bounds_run {a c n : Nat} (hac : a ≤ c) (hc : c ≤ n) : sliceBounds (some (a : Int)) (some (c : Int)) none n = ((a : Int), (c : Int), 1) := by
  simp only [sliceBounds, Option.getD_none]
  have h1 : ¬ ((a : Int) < 0) := by omega
  have h2 : ¬ ((c : Int) < 0) := by omega
  simp only [h1, h2, if_false, show (1 : Int) > 0 by decide, if_true]
  congr 1
  · omega
  · congr 1; omega
set_option maxRecDepth 100000 in
/-- list.__setitem__ with a slice of step one and another list -/
theorem setItem_slice {l b sl : Addr} {items new : Array Value} {n n2 : Nat} {vl vu : Value} {a c : Nat} {Q : Unit → Shared → Prop}
    (e : s.heap.get? l = some { cls := .type "list", data := .seq items n }) (e2 : s.heap.get? b = some { cls := .type "list", data := .seq new n2 }) (hne : l ≠ b)
    (hs : s.heap.IsSliceOf sl vl vu .none) (pl : IsPart vl (some (a : Int))) (pu : IsPart vu (some (c : Int))) (hac : a ≤ c) (hc : c ≤ items.size)
    (hsz : items.size + new.size ≤ sizeLine) (h : Q () { s with heap := s.heap.update l (Obj.mapSeq fun xs => xs.extract 0 a ++ new ++ xs.extract c xs.size) }) :
    wpAny (model prog w) A (setItem (.ref l) (.ref sl) (.ref b)) Q E s := by
  have hl : s.heap.IsList l items := PySem.IsL.isList e
  have hb : s.heap.IsList b new := PySem.IsL.isList e2
  obtain ⟨os, hos, hcs, hds⟩ := id hs
  have hTs : s.TypeIs (.ref sl) "slice" := ⟨os, hos, hcs⟩
  have hstep : ¬ ((rawPart none == rawInt 0) = true) := Bool.false_ne_true
  have hsame : Builtin.List.listSameRef (.ref l) (.ref b) = false := by
    unfold Builtin.List.listSameRef
    exact beq_eq_false_iff_ne.mpr hne
  have hmax : (max (a : Int) (c : Int)).toNat = c := by omega
  have hz' : ((fun xs : Array Value => xs.extract 0 a ++ new ++ xs.extract c xs.size) items).size ≤ sizeLine + 1 := by
    simp only [Array.size_append, Array.size_extract]
    omega
  unfold setItem
  try with_reducible refine wpAny_holding ?_
  first | refine wpAny_bind (wpAny_pure ?_) | skip
  refine wpAny_bind (wpAny_sequenceKey hl.typeIs (by decide) ?_)
  refine wpAny_bind (wpAny_callSpecial?_slot (name := Str.ofString "__setitem__") hl.typeIs slot_list_setitem
    (wpAny_call_entry slot_list_setitem hl.typeIs entry_list_setitem ?_ (args_list_setitem _ _ _)))
  show wpAny _ _ (Builtin.List.listSubscript? (.ref sl) >>= _) _ _ s
  refine wpAny_bind ?_
  unfold Builtin.List.listSubscript?
  refine wpAny_bind (wpAny_specialOf hTs slice_no_index ?_)
  simp only [Option.isNone_none, if_true]
  refine wpAny_pure ?_
  show wpAny _ _ (typeOf (.ref sl) >>= _) _ _ s
  refine wpAny_bind (wpAny_typeOf hTs ?_)
  first
    | rw [if_neg (by decide)]
    | refine PySem.W.KFB.if_not (by decide) ?_
  rw [listSliceParts_eq]
  refine wpAny_bind (wpAny_bind (wpAny_field hos hds (x := .none) rfl (wpAny_bind (wpAny_listPart .none ?_))))
  rw [if_neg hstep]
  refine wpAny_bind (wpAny_field hos hds (x := vl) rfl (wpAny_bind (wpAny_listPart pl ?_)))
  refine wpAny_bind (wpAny_field hos hds (x := vu) rfl (wpAny_bind (wpAny_listPart pu (wpAny_pure ?_))))
  first
    | simp only [hsame, Bool.false_eq_true, if_false]
    | refine PySem.W.KFB.if_not hsame ?_
    | (dsimp only
       rw [if_neg (by rw [hsame]; exact Bool.false_ne_true)])
  refine wpAny_bind (m := Builtin.List.listAllItems (.ref b) "must assign iterable to extended slice") ?_
  unfold Builtin.List.listAllItems
  refine wpAny_bind (wpAny_typeOf hb.typeIs ?_)
  first
    | refine PySem.W.KFB.if_so (by decide) ?_
    | rw [if_pos (by decide)]
    | simp only [beq_self_eq_true, Bool.true_or, if_true]
  unfold Builtin.List.listItems
  refine wpAny_bind (wpAny_seqItems e2 rfl (wpAny_pure ?_))
  refine wpAny_bind (wpAny_bind (wpAny_seqItems e rfl (wpAny_pure ?_)))
  refine wpAny_bind (wpAny_of_eq ((sliceIndices_raw (some (a : Int)) (some (c : Int)) none items.size (by simp)).trans (congrArg (pure : Int × Int × Int → Sem (Int × Int × Int)) (bounds_run hac hc))) ?_)
  show wpAny _ _ (if ((1 : Int) == 1) = true then _ else _) _ _ s
  rw [if_pos (by decide)]
  refine wpAny_bind (wpAny_rule ?_)
  first
    | simp only [notLongL hsz, Bool.false_eq_true, if_false]
    | refine PySem.W.KFB.if_not (notLongL hsz) ?_
  first | refine wpAny_bind (wpAny_pure ?_) | skip
  show wpAny _ _ (updateSeq l (fun xs => xs.extract 0 ((a : Int)).toNat ++ new ++ xs.extract (max (a : Int) (c : Int)).toNat xs.size) >>= _) _ _ s
  rw [hmax, Int.toNat_natCast]
  refine wpAny_bind (wpAny_updateSeq (hz := Nat.le_trans (Nat.le_add_right _ _) hsz) (_hz' := hz') e rfl ?_)
  refine wpAny_bind (wpAny_letGo ?_)
  first
    | exact wpAny_bind (wpAny_pure (wpAny_pure ⟨.none, rfl, wpAny_pure h⟩))
    | exact wpAny_pure ⟨.none, rfl, wpAny_pure h⟩
end

section
variable {X : Cx}
/-- xs[a:c] = ys of another list, at the value level: sl is the slice object that was just made -/
theorem set_slice {pins : List (Addr × Obj)} {s : Shared} {σ : St} {H : Hp} {l b sl : Addr} {xs ys : List V} {a c : Int} {vl vu : Value} {Q : Unit → Shared → Prop} (I : Inv X pins σ H s)
    (hH : H l = some (.lst xs)) (hB : H b = some (.lst ys)) (hne : l ≠ b) (hs : s.heap.IsSliceOf sl vl vu .none) (ra : RelV (.int a) vl) (rc : RelV (.int c) vu) (h0 : 0 ≤ a) (hac : a ≤ c) (hc : c ≤ xs.length)
    (hz : xs.length + ys.length ≤ sizeLine) (h : ∀ s', Inv X pins σ (upd H l (.lst (xs.take a.toNat ++ ys ++ xs.drop c.toNat))) s' → Q () s') :
    wpAny (model X.prog X.w) X.A (setItem (.ref l) (.ref sl) (.ref b)) Q X.xe s := by
  obtain ⟨ta, rfl⟩ := ra
  obtain ⟨tc, rfl⟩ := rc
  obtain ⟨z, its, n, r, hl, e⟩ := I.lstM hH
  obtain ⟨z2, its2, n2, r2, hl2, e2⟩ := I.lstM hB
  obtain ⟨a', rfl⟩ := Int.eq_ofNat_of_zero_le h0
  obtain ⟨c', rfl⟩ := Int.eq_ofNat_of_zero_le (Int.le_trans h0 hac)
  simp only [Int.toNat_natCast] at h
  refine setItem_slice (a := a') (c := c') e e2 hne hs (.int _ _) (.int _ _) (by omega) (by rw [List.size_toArray]; omega) (by rw [List.size_toArray, List.size_toArray]; omega) (h _ ?_)
  refine I.lset (its' := its.take a' ++ its2 ++ its.drop c') (t' := s.toks) hH e ?_ (Vals.append (Vals.append (r.take _) r2) (r.drop _)) ?_
  · exact splice_eq its its2 a' c'
  · rw [List.length_append, List.length_append, List.length_take, List.length_drop]
    omega
end
end L2

namespace Att
open PySem PySem.W PySem.Calls PyProof.Rows

/-! ### the script -/
theorem ints_of_wellAll {P : Params} {h : Heap} : ∀ (ns : List Int) (vs : List Value), WellAll P h vs (ns.map WData.int) → IntsAre vs ns := by
  intro ns
  induction ns with
  | nil =>
    intro vs w
    rw [List.map_nil] at w
    cases w
    exact .nil
  | cons n ns ih =>
    intro vs w
    rw [List.map_cons] at w
    cases w with
    | cons a b =>
      cases a
      exact .cons _ _ (ih _ b)

theorem script_of {l : OpenLaw} {n : Nat} (hn : l.most = some n) {P : Params} {h : Heap} {args : List WData} {vals : List Value}
    (hpre : l.row.toRowW.claim.pre args = true) (hwl : WellAll P h vals args) :
    ∃ a vs ns, vals = [Value.ref a] ∧ args = [WData.list (ns.map WData.int)] ∧ h.get? a = some { cls := .type "list", data := .seq vs.toArray } ∧ IntsAre vs ns ∧ ns.length ≤ n := by
  have hsh : WShape.hasAll [] args [.list .int] = true := (pre_splitW hpre).1
  have hc : l.pre.holds [] { args := args } = true := (pre_splitW hpre).2
  obtain ⟨d, r, rfl, h1, h2⟩ := hasAllW_cons hsh
  obtain rfl := hasAllW_nil h2
  obtain ⟨xs, rfl, h3⟩ := hasW_list h1
  obtain ⟨ns, rfl⟩ := items_int h3
  have hlen : ns.length ≤ n := by
    unfold OpenLaw.pre at hc
    have h4 : (WTm.not (.lt (.lit (.int (n : Int))) (.len (.arg 0)))).holds [] { args := [.list (ns.map .int)] } = true := by
      have h4 := (holds_andW hc).1
      rw [hn] at h4
      exact h4
    have h5 := condW_of h4 (w_not (w_lt w_lit (w_len_list (w_arg rfl))))
    rw [List.length_map] at h5
    refine Nat.le_of_not_lt fun q => ?_
    have q' : (n : Int) < ((ns.length : Nat) : Int) := by omega
    first
      | (rw [decide_eq_true q'] at h5; exact absurd h5 (by decide))
      | (simp at h5; omega)
  cases hwl with
  | cons w1 w2 =>
    cases w2
    cases w1 with
    | list ho hall => exact ⟨_, _, ns, rfl, rfl, ho, ints_of_wellAll ns _ hall, hlen⟩

theorem post_true (l : OpenLaw) (args : List WData) : l.row.toRowW.claim.post args (.bool true) args = true :=
  postW_of (r := l.row.toRowW) (X := (true == true))
    (show WShape.has [] (.bool true) .bool = true by first | rfl | decide | simp [WShape.has, WShape.arms, WShape.armsAll])
    (show (WTm.eq .res (.lit (.bool true))).value [] { args := args, res := some (.bool true), after := args } = some (.bool (true == true)) from w_eq_bool (w_res rfl) w_lit) rfl

/-! ### the attachment: holds_open's last premise (the goal 'hc' behind k_head) from a wpAny of the law's body -/
theorem attach {l : OpenLaw} {n : Nat} {q : Program} {loose : List Str} {XP : (Str → Option Value) → Heap → Prop} {YP : World → Heap → Prop} {d : DefRec} {x : Str}
    (hn : l.most = some n) (hdf : d.params.defaults = [])
    (hbind : ∀ pm cd doc v : Value, bindArgs (docDef d.name d.params d.body d.scope pm cd doc) ⟨[v], []⟩ = pure [(x, v)])
    (hx : d.scope.names.lookup x = some .local ∨ d.scope.names.lookup x = some .cell)
    (hk : d.scope.kind = .function) (hco : d.scope.isCoroutine = false) (hgen : d.scope.isGenerator = false)
    (body : ∀ (w : World) (s₀ s₁ s : Shared) (mg mb : Str → Option Value) (fa : Addr) (o : Obj) (pm cd doc : Value) (a : Addr) (vs : List Value) (ns : List Int),
      Ground q loose [] XP w s₀ mg mb s₁.heap → YP w s₁.heap →
      s₁.heap.get? fa = some o → o.data = .func (docDef d.name d.params d.body d.scope pm cd doc) → s₁.heap.CodeRec cd d.name → mg d.name = some (.ref fa) →
      s₁.heap.get? a = some { cls := .type "list", data := .seq vs.toArray } → IntsAre vs ns → ns.length ≤ n →
      s.gens = #[] → s.os = s₁.os →
      Fr s₁.heap s₁.heap.objs.size s.heap (bindL (envOfC d.name d.scope s₁.heap.objs.size fa cd).kindOf [(x, .ref a)] fun _ => none) →
      Cl s₁.heap.objs.size (cellsFrom (s₁.heap.objs.size + 1) d.scope.names []) s.heap (bindC (envOfC d.name d.scope s₁.heap.objs.size fa cd).kindOf [(x, .ref a)] fun _ => none) →
      wpAny (model l.prog w) (callerA.deeper (envOfC d.name d.scope s₁.heap.objs.size fa cd)) (execs d.body (envOfC d.name d.scope s₁.heap.objs.size fa cd))
        (fun f s' => f = .ret (.bool true) ∧ OldK s₁.heap s'.heap ∧ s'.os = s₁.os ∧ AllBare s'.gens) (fun _ _ => False) s) :
    WalkO q loose XP YP l.row.toRowW d [] (fun f vs => PySem.call f vs) := by
  intro w s₀ s₁ mg mb G Y fa o pm cd doc dV kV ho hd hcd hD hmg hg args vals as hpre hlay hrd hwl hlo
  obtain rfl : dV = .none := Dflts.none hD hdf
  obtain rfl : kV = .none := Dflts.noKw hD
  obtain ⟨a, vs, ns, rfl, rfl, hobj, hints, hlen⟩ := script_of hn hpre hwl
  refine enter_call ?_
  refine call_cells_ret (o := o) (by rw [depth_caller]; decide) ho (fd_plain hd) G.T.nolimit hcd (hbind pm cd doc (.ref a)) (fun y hy => ?_) (fun h₁ tk F X => ?_) hco hgen hk
  · obtain rfl : y = (x, Value.ref a) := List.mem_singleton.mp hy
    rcases hx with e | e
    · exact .inl e
    · exact .inr ⟨e, cellsFrom_some _ _ _ (.inl e)⟩
  · refine wpAny_mono (body w s₀ s₁ { s₁ with heap := h₁, toks := tk } mg mb fa o pm cd doc a vs ns G Y ho (fd_plain hd) hcd hmg hobj hints hlen hg rfl F X) (fun f s' hq => ?_) (fun _ _ hq => hq)
    obtain ⟨rfl, h2, h3, h4⟩ := hq
    exact ⟨.inl ⟨.bool true, .bool true, [], rfl, fun _ => rfl, .bool true, post_true l _, fun _ => ⟨List.Pairwise.nil, fun _ hm => (nomatch hm)⟩⟩, h2, h3, h4⟩

/-- the same from a codeAny of the CALL (for a layer whose function contracts speak of calls) -/
theorem attach_call {l : OpenLaw} {n : Nat} {q : Program} {loose : List Str} {XP : (Str → Option Value) → Heap → Prop} {YP : World → Heap → Prop} {d : DefRec}
    (hn : l.most = some n) (hdf : d.params.defaults = [])
    (call : ∀ (w : World) (s₀ s₁ : Shared) (mg mb : Str → Option Value) (fa : Addr) (o : Obj) (pm cd doc : Value) (a : Addr) (vs : List Value) (ns : List Int),
      Ground q loose [] XP w s₀ mg mb s₁.heap → YP w s₁.heap →
      s₁.heap.get? fa = some o → o.data = .func (docDef d.name d.params d.body d.scope pm cd doc) → s₁.heap.CodeRec cd d.name → mg d.name = some (.ref fa) →
      s₁.heap.get? a = some { cls := .type "list", data := .seq vs.toArray } → IntsAre vs ns → ns.length ≤ n → s₁.gens = #[] →
      codeAny (model l.prog w) callerA (.call (.ref fa) ⟨[.ref a], []⟩) (fun r s' => r = .ok (.ret (.bool true)) ∧ OldK s₁.heap s'.heap ∧ s'.os = s₁.os ∧ AllBare s'.gens) s₁) :
    WalkO q loose XP YP l.row.toRowW d [] (fun f vs => PySem.call f vs) := by
  intro w s₀ s₁ mg mb G Y fa o pm cd doc dV kV ho hd hcd hD hmg hg args vals as hpre hlay hrd hwl hlo
  obtain rfl : dV = .none := Dflts.none hD hdf
  obtain rfl : kV = .none := Dflts.noKw hD
  obtain ⟨a, vs, ns, rfl, rfl, hobj, hints, hlen⟩ := script_of hn hpre hwl
  refine enter_call (codeAny_mono (call w s₀ s₁ mg mb fa o pm cd doc a vs ns G Y ho (fd_plain hd) hcd hmg hobj hints hlen hg) fun r s' hq => ?_)
  obtain ⟨rfl, h2, h3, h4⟩ := hq
  exact ⟨.inl ⟨.bool true, .bool true, [], rfl, fun _ => rfl, .bool true, post_true l _, fun _ => ⟨List.Pairwise.nil, fun _ hm => (nomatch hm)⟩⟩, h2, h3, h4⟩

/-- the same where the top left finished generators (o_head chose holds_openN): nothing may have changed at all and no generator may be left -/
theorem attachN {l : OpenLaw} {n : Nat} {q : Program} {loose : List Str} {XP : (Str → Option Value) → Heap → Prop} {YP : World → Heap → Prop} {d : DefRec} {x : Str}
    (hn : l.most = some n) (hdf : d.params.defaults = [])
    (hbind : ∀ pm cd doc v : Value, bindArgs (docDef d.name d.params d.body d.scope pm cd doc) ⟨[v], []⟩ = pure [(x, v)])
    (hx : d.scope.names.lookup x = some .local ∨ d.scope.names.lookup x = some .cell)
    (hk : d.scope.kind = .function) (hco : d.scope.isCoroutine = false) (hgen : d.scope.isGenerator = false)
    (body : ∀ (w : World) (s₀ s₁ s : Shared) (mg mb : Str → Option Value) (fa : Addr) (o : Obj) (pm cd doc : Value) (a : Addr) (vs : List Value) (ns : List Int),
      Ground q loose [] XP w s₀ mg mb s₁.heap → YP w s₁.heap →
      s₁.heap.get? fa = some o → o.data = .func (docDef d.name d.params d.body d.scope pm cd doc) → s₁.heap.CodeRec cd d.name → mg d.name = some (.ref fa) →
      s₁.heap.get? a = some { cls := .type "list", data := .seq vs.toArray } → IntsAre vs ns → ns.length ≤ n →
      s.gens = #[] → s.os = s₁.os →
      Fr s₁.heap s₁.heap.objs.size s.heap (bindL (envOfC d.name d.scope s₁.heap.objs.size fa cd).kindOf [(x, .ref a)] fun _ => none) →
      Cl s₁.heap.objs.size (cellsFrom (s₁.heap.objs.size + 1) d.scope.names []) s.heap (bindC (envOfC d.name d.scope s₁.heap.objs.size fa cd).kindOf [(x, .ref a)] fun _ => none) →
      wpAny (model l.prog w) (callerA.deeper (envOfC d.name d.scope s₁.heap.objs.size fa cd)) (execs d.body (envOfC d.name d.scope s₁.heap.objs.size fa cd))
        (fun f s' => f = .ret (.bool true) ∧ (∀ b o, s₁.heap.get? b = some o → s'.heap.get? b = some o) ∧ s'.os = s₁.os ∧ s'.gens = #[]) (fun _ _ => False) s) :
    WalkN q loose XP YP l.row.toRowW d [] (fun f vs => PySem.call f vs) := by
  intro w s₀ s₁ mg mb G Y fa o pm cd doc dV kV ho hd hcd hD hmg hg args vals as hpre hlay hrd hwl hlo
  obtain rfl : dV = .none := Dflts.none hD hdf
  obtain rfl : kV = .none := Dflts.noKw hD
  obtain ⟨a, vs, ns, rfl, rfl, hobj, hints, hlen⟩ := script_of hn hpre hwl
  refine enter_callW ?_
  refine call_cells_ret (o := o) (by rw [depth_caller]; decide) ho (fd_plain hd) G.T.nolimit hcd (hbind pm cd doc (.ref a)) (fun y hy => ?_) (fun h₁ tk F X => ?_) hco hgen hk
  · obtain rfl : y = (x, Value.ref a) := List.mem_singleton.mp hy
    rcases hx with e | e
    · exact .inl e
    · exact .inr ⟨e, cellsFrom_some _ _ _ (.inl e)⟩
  · refine wpAny_mono (body w s₀ s₁ { s₁ with heap := h₁, toks := tk } mg mb fa o pm cd doc a vs ns G Y ho (fd_plain hd) hcd hmg hobj hints hlen hg rfl F X) (fun f s' hq => ?_) (fun _ _ hq => hq)
    obtain ⟨rfl, h2, h3, h4⟩ := hq
    exact ⟨.inl ⟨.bool true, .bool true, [], rfl, fun _ => rfl, .bool true, post_true l _, fun _ => ⟨List.Pairwise.nil, fun _ hm => (nomatch hm)⟩⟩, h2, h3, h4⟩

/-! ### rules over ANY heap (no ledger) from facts about the written part K: the library's own take a ledger (News) for what they write -/
section
variable {prog : Program} {w : World} {A : Around} {E : Value → Shared → Prop} {s : Shared} {K : Frag}

/-- a def of the module, or a method (qual 'C.m'), entered: the frame is the next address; cells behind it -/
theorem call_fn {R : Result → Shared → Prop} {name qual : Str} {params : Arguments} {body : List Stmt} {scope : Scope} {dV kV doc pm cdv ct oc : Value} {an od : Option Addr} {osl : Array (Option Value)} {f : Addr} {args : Args} {binds : List (Str × Value)}
    (X : K.In s.heap) (hlim : s.heap.NoLimit) (ho : K.lookup f = some ⟨oc, od, .func (fnOf name qual params body scope dV kV doc pm an cdv ct), osl⟩) (hcd : codeIn K cdv qual = true) (hroom : A.depth < recursionLimit)
    (hbind : BindsTo s (fnOf name qual params body scope dV kV doc pm an cdv ct) args binds)
    (hkind : (binds.all fun y => scope.names.lookup y.1 == some .local || scope.names.lookup y.1 == some .cell) = true)
    (h : ∀ s₁, InCallC s s.heap.objs.size (bindL (envOfC qual scope s.heap.objs.size f cdv).kindOf binds fun _ => none) (cellsFrom (s.heap.objs.size + 1) scope.names [])
        (bindC (envOfC qual scope s.heap.objs.size f cdv).kindOf binds fun _ => none) s₁ →
      wpAny (model prog w) (A.deeper (envOfC qual scope s.heap.objs.size f cdv)) (execs body (envOfC qual scope s.heap.objs.size f cdv))
        (fun fl s' => R (.ok (.ret (match fl with | .ret v => v | _ => .none))) s')
        (fun e s' => wpAny (model prog w) (A.deeper (envOfC qual scope s.heap.objs.size f cdv)) (leaving (envOfC qual scope s.heap.objs.size f cdv) e) (fun _ s'' => R (.error e) s'') (fun e' s'' => R (.error e') s'') s') s₁)
    (hco : scope.isCoroutine = false) (hgen : scope.isGenerator = false) (hk : scope.kind = .function) : codeAny (model prog w) A (.call (.ref f) args) R s := by
  refine codeAny_call_function hroom (X _ _ ho) rfl hco hgen rfl (codeRec_of X hcd) (hbind _ _ _ _ ?_)
  refine wpAny_newFunctionEnv_cells hk (kindsX hkind _) fun env he s₁ x => ?_
  subst he
  exact ⟨hlim.keeps x.toInCall.keep, codeAny_func (h s₁ x)⟩

/-- C(..): dict at size, instance at size + 1, then __init__ -/
theorem make_obj {R : Result → Shared → Prop} {C fI : Addr} {rest : List Value} {kw : List (Str × Value)}
    (X : K.In s.heap) (hm : makesIn K C = true) (hi : findIn K (.ref C) "__init__" = some (some (.ref fI))) (hf : isFn K (.ref fI) = true)
    (h : codeAny (model prog w) (A.under (.builtin "type.__call__" ⟨.ref C :: rest, kw⟩)) (.call (.ref fI) ⟨.ref (s.heap.objs.size + 1) :: rest, kw⟩) (InitBack (s.heap.objs.size + 1) R)
      { s with heap := (s.heap.push emptyDict).push (instObj C s.heap.objs.size) }) : codeAny (model prog w) A (.call (.ref C) ⟨rest, kw⟩) R s := by
  obtain ⟨hh, g, d, t, os⟩ := s
  exact make_core (makes_of X hm) (looks_findIn X hi) (fun self => bind_fn X self (beq_iff_eq.mp hf)) (.inl rfl) h

/-- x.name where the instance's dict holds the name and the class does not -/
theorem get_field {x C : Addr} {ox : Obj} {es : List DictEntry} {n : Nat} {name : Str} {expr : Bool} {v : Value} {Q : Value → Shared → Prop}
    (X : K.In s.heap) (I : PySem.W.InstAt s.heap x ox C (some (dictOf es n))) (hg : plainGet K C name = true) (hh : hasDictIn K C = true) (ha : findIn K (.ref C) name = some none)
    (hl : getL name es = some (some v)) (hv : handedIn v = true) (h : Q v { s with toks := s.toks + 1 }) : wpAny (model prog w) A (getAttr (.ref x) name expr) Q E s :=
  get_value X I (plainGet_of hg).1 (findObj_own hh ha rfl hl) hv h

/-- x.m(..): the method found in the class -/
theorem get_method {x C f : Addr} {ox : Obj} {es : List DictEntry} {n : Nat} {name : Str} {pl : Sem Bool} {Q : Value × List Value → Shared → Prop}
    (X : K.In s.heap) (I : PySem.W.InstAt s.heap x ox C (some (dictOf es n))) (hg : plainGet K C name = true) (hf : findIn K (.ref C) name = some (some (.ref f))) (ht : isFn K (.ref f) = true)
    (hl : getL name es = some none) (h : Q (.ref f, [.ref x]) s) : wpAny (model prog w) A (getMethod (.ref x) name pl) Q E s :=
  method_fn X I (plainGet_of hg).1 (plainGet_of hg).2 hf (beq_iff_eq.mp ht) (by show (lookIn name (dictOf es n)).map _ = _; rw [lookIn_dict, hl]; rfl) h

/-! the whole heap as the ledger: makes every rule that writes through a ledger a rule over any heap -/
def noObjs (h : Heap) : Heap := { h with objs := #[] }
theorem noObjs_get (h : Heap) (b : Addr) : (noObjs h).get? b = none := by
  cases e : (noObjs h).get? b with
  | none => rfl
  | some o => exact absurd (Heap.lt_size e) (Nat.not_lt_zero _)
def ledger (h : Heap) (L d : Addr) : List (Addr × Obj) := (List.range h.objs.size).filterMap fun a => if a = L ∨ a = d then none else (h.get? a).map fun o => (a, o)
theorem mem_ledger {h : Heap} {L d a : Addr} {o : Obj} : (a, o) ∈ ledger h L d ↔ a ≠ L ∧ a ≠ d ∧ h.get? a = some o := by
  unfold ledger
  rw [List.mem_filterMap]
  constructor
  · rintro ⟨b, _, e⟩
    split at e
    · cases e
    · rename_i hb
      obtain ⟨o', ho, e'⟩ := Option.map_eq_some_iff.mp e
      cases e'
      exact ⟨fun q => hb (.inl q), fun q => hb (.inr q), ho⟩
  · rintro ⟨n1, n2, ho⟩
    refine ⟨a, List.mem_range.mpr (Heap.lt_size ho), ?_⟩
    rw [if_neg (show ¬ (a = L ∨ a = d) from fun q => q.elim n1 n2), ho] <;> rfl
theorem news_ledger {h : Heap} {L d : Addr} {od : Obj} (hne : d ≠ L) (ho : h.get? d = some od) : News (noObjs h) L h ([] ++ (d, od) :: ledger h L d) := by
  rintro ⟨a, o⟩ hp
  rcases List.mem_cons.mp hp with e | hp
  · cases e
    exact ⟨ho, hne, noObjs_get _ _⟩
  · obtain ⟨n1, n2, e⟩ := mem_ledger.mp hp
    exact ⟨e, n1, noObjs_get _ _⟩
theorem fr_all {h : Heap} {L : Addr} {m : Str → Option Value} (n : h.Ns L m) : Fr (noObjs h) L h m :=
  ⟨n, fun b o e => (by rw [noObjs_get] at e; cases e), Nat.zero_le _⟩
/-- Upd of the head entry (for append_K, setItem_K ..) -/
theorem upd_ledger {h : Heap} {L d : Addr} {o o' : Obj} : Upd d o o' ((d, o) :: ledger h L d) ((d, o') :: ledger h L d) :=
  .head fun ⟨_, _⟩ hp => (mem_ledger.mp hp).2.1

/-- x.name = v over any heap: L is any namespace of the heap (the frame's, say): its map stays, its object is not told; all else but the dict stays -/
theorem set_field {x C dx L : Addr} {ox : Obj} {m : Str → Option Value} {es es' : List DictEntry} {n n' : Nat} {name : Str} {v : Value} {Q : Unit → Shared → Prop}
    (X : K.In s.heap) (I : PySem.W.InstAt s.heap x ox C (some (dictOf es n))) (hd : ox.dict = some dx) (hL : s.heap.Ns L m) (hne : dx ≠ L)
    (hs : findIn K (.ref C) "__setattr__" = some (some (.builtin "object.__setattr__"))) (hp : plainOver K C = true) (ht : takerIn K C name = some none) (hh : hasDictIn K C = true) (hl : (getL name es).isSome = true)
    (e : (putL name (PyData.keyHash w.params name) (.str name (s.toks + 1)) v es, putN name es n) = (es', n')) (hz : es'.length ≤ 1000)
    (h : ∀ h' : Heap, h'.Ns L m → h'.get? dx = some (dictOf es' n') → (∀ b o, b ≠ dx → b ≠ L → s.heap.get? b = some o → h'.get? b = some o) → Q () { s with heap := h', toks := s.toks + 2 }) :
    wpAny (model prog w) A (setAttr (.ref x) name v) Q E s := by
  obtain ⟨e1, e2⟩ := Prod.mk.inj e
  have hdx : s.heap.get? dx = some (dictOf es n) := by
    have := I.dict
    rw [hd] at this
    exact this
  refine set_plain X I hs (osa_dict (s := { s with toks := s.toks + 1 }) (h₀ := noObjs s.heap) (L := L) (m := m) (od := dictOf es n) (od' := dictOf es' n') (es := es') (n := n') (pre := []) (post := ledger s.heap L dx)
    (fr_all hL) (news_ledger hne hdx) X I hd hp ht hh hl (fun _ q => nomatch q) (fun ⟨_, _⟩ q => (mem_ledger.mp q).2.1) (by rw [putName_dict, e1, e2]) rfl hz fun h' F' N' => ?_)
  exact h h' F'.ns (N'.get (List.Mem.head _)) fun b o n1 n2 ho => N'.get (List.Mem.tail _ (mem_ledger.mpr ⟨n2, n1, ho⟩))
end
end Att

namespace L2
open PySem PySem.Spec PyProof.Rows

theorem vals_ints : ∀ {vs : List Value} {ns : List Int}, IntsAre vs ns → Vals (ns.map V.int) vs
  | _, _, .nil => .nil
  | _, _, .cons n t h => .cons ⟨t, rfl⟩ (vals_ints h)

/-- nothing is tracked but the script, known to the object (or it is an object of the module) -/
def Only (H : Hp) : Prop := ∀ b, H b = none ∨ ∃ o xs, H b = some (.frz o (.lst xs))

/-- THE HEAD: the law's promise, at the heap behind the top. F, the promise of the law's def, may use that base is part of the heap (so K.In base, base.Ns mainGlobals mg stand in Mod) -/
theorem law_call {P : Program} {w : World} {K : PySem.W.Frag} {mg mb : Str → Option Value} {CX : CXT} {k : Nat} {fa a : Addr} {fd : FuncData} {x : Str} {sp : Sp} {s₁ : Shared} {vs : List Value} {ns : List Int}
    (KX : K.In s₁.heap) (hns : s₁.heap.Ns mainGlobals mg) (hb : s₁.heap.Ns builtinsNs mb) (hbb : ∀ x : Str, x ≠ "__name__" → mb x = bootBuiltins x) (hlim : s₁.heap.NoLimit) (hg : s₁.gens = #[])
    (ha : s₁.heap.get? a = some { cls := .type "list", data := .seq vs.toArray }) (hi : IntsAre vs ns) (hl : ns.length ≤ sizeLine) (hr : Room k callerA)
    (F : ∀ base : Heap, K.In base → base.Ns mainGlobals mg → FnOk P w K mg base CX k fa fd [x] sp) (hbind : ∀ (s : Shared) (u : Value), BindsTo s fd ⟨[u], []⟩ [(x, u)])
    (hsp : ∀ H : Hp, Only H → SqL K H a (ns.map V.int) → sp [.ref a] H (fun v _ => v = .bl true) fun _ _ _ => False)
    (hCX : ∀ H e s', CX [] H s₁ (fun _ _ _ => False) e s' → False) :
    codeAny (model P w) callerA (.call (.ref fa) ⟨[.ref a], []⟩) (fun r s' => r = .ok (.ret (.bool true)) ∧ OldK s₁.heap s'.heap ∧ s'.os = s₁.os ∧ AllBare s'.gens) s₁ := by
  have rv := vals_ints hi
  have lenV := hi.length
  -- from an abstract heap in which nothing but the script may be tracked
  have core : ∀ H : Hp, Only H → SqL K H a (ns.map V.int) → HOk P w H s₁.heap → (∀ b, H b ≠ none → b = a) → (H a ≠ none → K.lookup a = none) →
      codeAny (model P w) callerA (.call (.ref fa) ⟨[.ref a], []⟩) (fun r s' => r = .ok (.ret (.bool true)) ∧ OldK s₁.heap s'.heap ∧ s'.os = s₁.os ∧ AllBare s'.gens) s₁ := by
    intro H hO hS hok hA hK
    have base_of : ∀ {b : Addr} {o : Obj}, s₁.heap.get? b = some o → H b = none → (hidT s₁.heap H).get? b = some o := fun e n => hidT_get e n
    have noA : ∀ {b : Addr} {o : Obj} {es : Array DictEntry} {ep : Nat}, s₁.heap.get? b = some o → o.data = .dict es ep → H b = none := fun {b o es ep} e d => by
      cases q : H b with
      | none => rfl
      | some u =>
        have e' : b = a := hA b (by rw [q]; simp)
        subst e'
        rw [ha] at e; cases e
        have d' : Data.seq vs.toArray _ = Data.dict es ep := d
        cases d'
    have nsK : ∀ {b : Addr} {m : Str → Option Value}, s₁.heap.Ns b m → (hidT s₁.heap H).Ns b m := fun {b m} ⟨o, es, ep, e, d, r⟩ => ⟨o, es, ep, base_of e (noA e d), d, r⟩
    have hKb : K.In (hidT s₁.heap H) := fun b o e => base_of (KX b o e) (by
      cases q : H b with
      | none => rfl
      | some u =>
        have e' : b = a := hA b (by rw [q]; simp)
        subst e'
        rw [hK (by rw [q]; simp)] at e; cases e)
    have hM : Mod K mg (hidT s₁.heap H) := ⟨hKb, nsK hns, ⟨mb, nsK hb, hbb⟩, let ⟨mc, h1, h2⟩ := hlim; ⟨mc, nsK h1, h2⟩⟩
    have e0 : Env0 P w K mg (hidT s₁.heap H) callerA [] s₁ H := ⟨rfl, hM, fun b o e => of_hidT e, Nat.le_of_eq (hidT_size _ _), trivial, fun b hb => absurd (show b ∈ ([] : List Addr) from hb) (by simp), hok, .of_eq hg⟩
    refine codeAny_mono ((F _ hKb (nsK hns)).run callerA [] s₁ H ⟨[.ref a], []⟩ [.ref a] [.ref a] _ _ hr e0 (hbind s₁ (.ref a)) (.cons rfl .nil) (hsp H hO hS)) fun r s' h => ?_
    cases r with
    | error e => exact (hCX H e s' h).elim
    | ok fl =>
      cases fl with
      | next => exact False.elim h
      | brk => exact False.elim h
      | cont => exact False.elim h
      | ret u =>
        obtain ⟨v, H', os, bare, un, hok', r', q⟩ := h
        have q' : v = .bl true := q
        subst q'
        obtain rfl : u = Value.bool true := r'
        refine ⟨rfl, OldK.of_keep fun b o e => ?_, os, bare⟩
        cases q : H b with
        | none => exact un.keep b o e q (by intro z; exact absurd (show b ∈ ([] : List Addr) from z) (by simp)) (by simp)
        | some u =>
          rcases hO b with z | ⟨ob, xs, z⟩
          · rw [q] at z; cases z
          · have z2 := un.frzs b ob _ z
            obtain ⟨e1, _⟩ := hok b _ z
            obtain ⟨e2, _⟩ := hok' b _ z2
            rw [e] at e1; cases e1
            exact e2
  cases hk : K.lookup a with
  | some o =>
    -- the script is one of the module's own objects
    have e := KX a o hk
    rw [ha] at e
    cases e
    refine core (fun _ => none) (fun _ => .inl rfl) (.inr ⟨_, vs.toArray, _, hk, rfl, rfl, rfl, by rw [List.size_toArray, lenV]; exact hl, by simpa using rv⟩) (fun b u z => by have z' : (none : Option HO) = some u := z; cases z') (fun b z => absurd rfl z) fun z => absurd rfl z
  | none =>
    refine core (fun b => if b = a then some (.frz { cls := .type "list", data := .seq vs.toArray } (.lst (ns.map V.int))) else none) (fun b => ?_) (.inl (.inr ⟨{ cls := .type "list", data := .seq vs.toArray }, if_pos rfl⟩)) (fun b u z => ?_) (fun b z => ?_) fun _ => hk
    · by_cases hb : b = a
      · exact .inr ⟨_, _, if_pos hb⟩
      · exact .inl (if_neg hb)
    · by_cases hb : b = a
      · have z' := (if_pos hb).symm.trans z
        cases z'
        subst hb
        exact ⟨ha, by rw [List.length_map]; exact hl, vs, _, rv, ha⟩
      · have z' := (if_neg hb).symm.trans z
        cases z'
    · by_cases hb : b = a
      · exact hb
      · exact absurd (if_neg hb) z
end L2

namespace L2
open PySem PySem.Spec PyProof.Rows

abbrev KOf {K : PySem.W.Frag} {h : Heap} (_ : K.In h) : PySem.W.Frag := K

/-- the goal that k_head leaves (case hc), from the law's promise. F gives the function object fd (K's own) once, then the promise over every base -/
theorem walk_of {l : PySem.W.OpenLaw} {n k : Nat} {q : Program} {loose : List Str} {XP : (Str → Option Value) → Heap → Prop} {YP : World → Heap → Prop} {d : DefRec} {K : Params → PySem.W.Frag} {CX : World → CXT} {sp : World → Sp} {x : Str}
    (hn : l.most = some n) (hn2 : n ≤ sizeLine) (hdf : d.params.defaults = []) (hr : Room k callerA)
    (hY : ∀ (w : World) (h : Heap), YP w h → (K w.params).In h)
    (F : ∀ (w : World) (mg : Str → Option Value) (fa : Addr) (h : Heap), (K w.params).In h → h.Ns mainGlobals mg → mg d.name = some (.ref fa) →
      ∃ fd : FuncData, (∀ (s : Shared) (u : Value), BindsTo s fd ⟨[u], []⟩ [(x, u)]) ∧
        ∀ base : Heap, (K w.params).In base → base.Ns mainGlobals mg → FnOk l.prog w (K w.params) mg base (CX w) k fa fd [x] (sp w))
    (hsp : ∀ (w : World) (H : Hp) (a : Addr) (ns : List Int), ns.length ≤ n → Only H → SqL (K w.params) H a (ns.map V.int) → sp w [.ref a] H (fun v _ => v = .bl true) fun _ _ _ => False)
    (hCX : ∀ (w : World) (H : Hp) (s : Shared) (e : Value) (s' : Shared), CX w [] H s (fun _ _ _ => False) e s' → False) :
    PySem.W.WalkO q loose XP YP l.row.toRowW d [] (fun f vs => PySem.call f vs) := by
  refine Att.attach_call hn hdf fun w s₀ s₁ mg mb fa o pm cd doc a vs ns G Y ho hd hcd hmg hobj hints hlen hg => ?_
  have KX := hY w _ Y
  obtain ⟨fd, hb, hF⟩ := F w mg fa _ KX G.T.g hmg
  exact law_call KX G.T.g G.T.b G.T.builtins G.T.nolimit hg hobj hints (Nat.le_trans hlen hn2) hr hF hb (fun H hO hS => hsp w H a ns hlen hO hS) fun H e s' => hCX w H s₁ e s'
/-- the same where the promise hangs on the written part alone: (sp := My.sp_law), no hole under a binder -/
theorem walk_ofK {l : PySem.W.OpenLaw} {n k : Nat} {q : Program} {loose : List Str} {XP : (Str → Option Value) → Heap → Prop} {YP : World → Heap → Prop} {d : DefRec} {K : Params → PySem.W.Frag} {CX : CXT} {sp : PySem.W.Frag → Sp} {x : Str}
    (hn : l.most = some n) (hn2 : n ≤ sizeLine) (hdf : d.params.defaults = []) (hr : Room k callerA)
    (hY : ∀ (w : World) (h : Heap), YP w h → (K w.params).In h)
    (F : ∀ (w : World) (mg : Str → Option Value) (fa : Addr) (h : Heap), (K w.params).In h → h.Ns mainGlobals mg → mg d.name = some (.ref fa) →
      ∃ fd : FuncData, (∀ (s : Shared) (u : Value), BindsTo s fd ⟨[u], []⟩ [(x, u)]) ∧
        ∀ base : Heap, (K w.params).In base → base.Ns mainGlobals mg → FnOk l.prog w (K w.params) mg base CX k fa fd [x] (sp (K w.params)))
    (hsp : ∀ (K : PySem.W.Frag) (H : Hp) (a : Addr) (ns : List Int), ns.length ≤ n → Only H → SqL K H a (ns.map V.int) → sp K [.ref a] H (fun v _ => v = .bl true) fun _ _ _ => False)
    (hCX : ∀ (H : Hp) (s : Shared) (e : Value) (s' : Shared), CX [] H s (fun _ _ _ => False) e s' → False) :
    PySem.W.WalkO q loose XP YP l.row.toRowW d [] (fun f vs => PySem.call f vs) :=
  walk_of (K := K) (CX := fun _ => CX) (sp := fun w => sp (K w.params)) hn hn2 hdf hr hY F (fun w H a ns h1 h2 h3 => hsp (K w.params) H a ns h1 h2 h3) fun _ H s e s' => hCX H s e s'
end L2

/- THE LAST THEOREM (shape; LID, My.* are yours):
   My.Adr: a structure of the addresses that your layer names (classes, functions); My.Txt K t: a structure (Prop) of the equations over K;
   My.txt_mk : {K} {implicit addresses ..} (e1 : nsIn K mainGlobals "law" = some (some (.ref f))) (e2 : K.lookup f = some ⟨oc, od, .func (fnOf "law" "law" params body scope dV kV doc pm an cdv ct), sl⟩) (e3 : codeIn K cdv "law" = true) .. : ∃ t, My.Txt K t

set_option maxRecDepth 100000 in
set_option maxHeartbeats 0 in
theorem PySem.Challenge.cw_LID_holds : PySem.Challenge.rw_LID.Holds := by
  w_on; o_law; k_head; (case hw => w_witness2)
  k_fill
  refine L2.walk_of (l := PySem.Challenge.rw_LID) (n := 63) (k := 40) (x := "script") (CX := fun w => ..) (sp := fun _ => My.sp_law) rfl (by decide) rfl ⟨rfl, by decide, by decide⟩ (fun w h Y => PySem.W.kIn_of Y) ?F ?S ?C
  case F =>
    intro w mg fa h KX G hmg
    have T : ∃ t, My.Txt (L2.KOf KX) t := by
      dsimp only [L2.KOf]                          -- K must stand as «<heap const> w.params» for k_is
      refine' My.txt_mk ?e1 ?e2 ?e3 ..
      (case e1 => PySem.W.k_is)                    -- in the order: a name -> its address -> its object -> its parts
      (case e2 => PySem.W.k_is)
      ..
    obtain ⟨t, T⟩ := T
    have e0 := hmg.symm.trans (PySem.W.mg_of KX G T.law)
    cases e0                                       -- fa is the law's own address
    exact ⟨_, fun s u => .of_eq rfl, fun base kb nb => My.law_fn T kb nb⟩     -- if «.of_eq rfl» comes too early: refine' ⟨_, ?b, fun base kb nb => My.law_fn T kb nb⟩; exact fun s u => .of_eq rfl
  case S => exact fun w H a ns hl hO hS => ..
  case C => exact ..
(the tactic k_is has no namespace: write k_is) -/

/-! SHORT WORDS over the layer: a def of the text, its body, what a loop and a test want. -/
namespace L2
open PySem PySem.Spec PyProof.Rows

/-! ### the text by places -/
/-- the j-th statement of a class's body -/
def inClass (s : Stmt) (j : Nat) : Stmt := match s with
  | .ClassDef _ _ _ body _ _ _ _ _ _ _ => body.getD j (.Pass ⟨0, 0, 0, 0⟩)
  | _ => .Pass ⟨0, 0, 0, 0⟩
def defArgs (s : Stmt) : Arguments := match s with
  | .FunctionDef _ a _ _ _ _ _ _ _ _ => a
  | _ => { posonlyargs := [], args := [], vararg := none, kwonlyargs := [], kw_defaults := [], kwarg := none, defaults := [] }
def defBody (s : Stmt) : List Stmt := match s with
  | .FunctionDef _ _ b _ _ _ _ _ _ _ => b
  | _ => []
def defScope (s : Stmt) : Scope := match s with
  | .FunctionDef _ _ _ _ _ _ sc _ _ _ => sc
  | _ => { kind := .function, names := [], isGenerator := false, isCoroutine := false }

/-! ### no exception leaves a def -/
abbrev CX0 : CXT := fun _ _ _ _ _ _ => False
abbrev E0 : XK := fun _ _ _ => False
theorem pass0 {X : Cx} : Passes CX0 X E0 := fun _ _ _ _ _ _ _ h => h.elim

/-! ### a def (or method) of the text as it stands behind the top -/
structure Fun (K : PySem.W.Frag) (x qual : Str) (st : Stmt) (f : Addr) (fd : FuncData) : Prop where
  ex : ∃ (oc : Value) (od : Option Addr) (kV doc pm : Value) (an : Option Addr) (cdv ct : Value) (osl : Array (Option Value)),
    fd = PySem.W.fnOf x qual (defArgs st) (defBody st) (defScope st) .none kV doc pm an cdv ct ∧ K.lookup f = some ⟨oc, od, .func fd, osl⟩ ∧ PySem.W.codeIn K cdv qual = true
  kp : PySem.W.keepIn K (.ref f) = true
section
variable {P : Program} {w : World} {K : PySem.W.Frag} {mg : Str → Option Value} {base : Heap}
/-- THE RULE for a def: its body as a term of rules, and the reading of that term -/
theorem Fun.ok {x qual : Str} {st : Stmt} {f : Addr} {fd : FuncData} {N ps : List Str} {k : Nat} {sp : Sp} (F : Fun K x qual st f fd) (S : FnScope N ps (defScope st)) (len : ∀ vs H Q E, sp vs H Q E → vs.length = ps.length)
    (hbody : ∀ (cdv : Value) (A : Around) (outer : List Env) (s : Shared) (H : Hp) (vs : List V) (Q : VK) (E : XK), Room k (A.deeper (envOfC qual (defScope st) s.heap.objs.size f cdv)) → sp vs H Q E →
      ∃ t, PSs (cxOf CX0 P w K mg base N qual (defScope st) f cdv A outer s H E).nox (defBody st) t ∧ t { nx := fun _ H' => Q .non H', rt := Q } (start N vs) H) : FnOk P w K mg base CX0 (k + 1) f fd ps sp := by
  obtain ⟨oc, od, kV, doc, pm, an, cdv, ct, osl, rfl, lk, hcd⟩ := F.ex
  refine fn_of lk hcd S len fun A outer s H vs Q E hr hsp => ?_
  obtain ⟨t, h, q⟩ := hbody cdv A outer s H vs Q E hr hsp
  exact ⟨t, h.nox, q⟩
/-- how its arguments bind (no defaults): h is «fun _ _ _ _ _ _ us hl => match us, hl with | [_, _], _ => rfl», one _ a parameter -/
theorem Fun.binds {x qual : Str} {st : Stmt} {f : Addr} {fd : FuncData} {ps : List Str} (F : Fun K x qual st f fd)
    (h : ∀ (kV doc pm : Value) (an : Option Addr) (cdv ct : Value) (us : List Value), us.length = ps.length → bindArgs (PySem.W.fnOf x qual (defArgs st) (defBody st) (defScope st) .none kV doc pm an cdv ct) ⟨us, []⟩ = pure (ps.zip us)) : Binds K fd ps [] := by
  obtain ⟨oc, od, kV, doc, pm, an, cdv, ct, osl, rfl, lk, hcd⟩ := F.ex
  exact .all (h kV doc pm an cdv ct)
theorem fun_mk {x qual : Str} {st : Stmt} {f : Addr} {oc : Value} {od an : Option Addr} {osl : Array (Option Value)} {kV doc pm cdv ct : Value} (l : K.lookup f = some ⟨oc, od, .func (PySem.W.fnOf x qual (defArgs st) (defBody st) (defScope st) .none kV doc pm an cdv ct), osl⟩)
    (c : PySem.W.codeIn K cdv qual = true) (k : PySem.W.keepIn K (.ref f) = true) : Fun K x qual st f (PySem.W.fnOf x qual (defArgs st) (defBody st) (defScope st) .none kV doc pm an cdv ct) := ⟨⟨oc, od, kV, doc, pm, an, cdv, ct, osl, rfl, l, c⟩, k⟩
end
theorem hu_of {A : Around} {k : Nat} (hr : Room k A) : A.units + 1 < cLine := Nat.lt_of_le_of_lt (Nat.add_le_add_left (by decide : 1 ≤ 64) _) hr.units
theorem small1000 {n : Nat} (h : n ≤ 1000) : n < sizeLine := Nat.lt_of_le_of_lt h (by decide)

/-! ### expressions in short: the name that stands in the i-th slot -/
section
variable {X : Cx}
theorem pv (i : Nat) {x : Str} {pos : Pos} (hN : X.N[i]? = some x := by rfl) (hv : Vis X.env.scope x := by first | exact Or.inl rfl | exact Or.inr (Or.inl rfl) | exact Or.inr (Or.inr rfl)) (hd : (x == ("__debug__" : Str)) = false := by decide)
    (hcd : (x == ("__classdict__" : Str)) = false := by decide) : PE X (.Name x pos) (tVar i) := pe_var hN hv hd hcd
end

/-! ### tests -/
theorem iteF {A B : Prop} (h : B) : if false = true then A else B := by
  rw [if_neg Bool.false_ne_true]
  exact h
theorem iteT {A B : Prop} (h : A) : if true = true then A else B := by
  rw [if_pos rfl]
  exact h
theorem ite2 {c A B : Prop} [Decidable c] (h1 : c → A) (h2 : ¬ c → B) : if c then A else B := by
  by_cases h : c
  · rw [if_pos h]
    exact h1 h
  · rw [if_neg h]
    exact h2 h
theorem iteNS {c A B : Prop} [Decidable c] (hc : c) (h : B) : if (!decide c) = true then A else B := by
  rw [decide_eq_true hc]
  exact iteF h

/-! ### heaps -/
/-- all that was tracked is as it was -/
def Same (H H' : Hp) : Prop := ∀ b o, H b = some o → H' b = some o
theorem Same.refl (H : Hp) : Same H H := fun _ _ h => h
theorem Same.trans {H H1 H2 : Hp} (a : Same H H1) (b : Same H1 H2) : Same H H2 := fun c o h => b c o (a c o h)
theorem Same.free {H H' : Hp} (e : Same H H') {l : Addr} (h : H' l = Option.none) : H l = Option.none := by
  cases q : H l with
  | none => rfl
  | some o =>
    rw [e l o q] at h
    cases h
theorem Same.seq {K : PySem.W.Frag} {H H' : Hp} {a : Addr} {xs : List V} (e : Same H H') (h : SqL K H a xs) : SqL K H' a xs := by
  rcases h with (h | ⟨o, h⟩) | h
  · exact .inl (.inl (e _ _ h))
  · exact .inl (.inr ⟨o, e _ _ h⟩)
  · exact .inr h

end L2

set_option Elab.async false
set_option linter.all false
set_option maxRecDepth 100000
set_option maxHeartbeats 4000000
namespace L2
open PySem PySem.Spec PyProof.Rows
/-! ### argument lists without a star, without unfolding eval -/
def noStar : Expr → Bool
  | .Starred _ _ => false
  | _ => true
theorem star_cons {e : Expr} (h : noStar e = true) (es : List Expr) (env : Env) : starEach (e :: es) env = (false, eval e env) :: starEach es env := by
  cases e <;> first | rfl | cases h
theorem star_any {es : List Expr} (h : es.all noStar = true) (pos : Pos) (env : Env) : (backTo pos (starEach es env)).any (·.1) = false := by
  induction es with
  | nil => rfl
  | cons e r ih =>
    rw [List.all_cons, Bool.and_eq_true] at h
    rw [star_cons h.1]
    show (false || (backTo pos (starEach r env)).any (·.1)) = false
    rw [ih h.2]
    rfl
/-- an argument list, shut: what stands in it is not looked through -/
structure PAx (X : Cx) (es : List Expr) (t : TA) : Prop where
  h : PA X es t
theorem pa_0 {X : Cx} : PAx X [] tNil := ⟨pa_nil⟩
theorem pa_c {X : Cx} {e : Expr} {es : List Expr} {te : TE} {t : TA} (ha : PE X e te) (hr : PAx X es t) (h : noStar e = true) : PAx X (e :: es) (tCons te t) := ⟨pa_cons ha hr.h (star_cons h es _)⟩
theorem pe_lx {X : Cx} {es : List Expr} {t : TA} {pos : Pos} (h : PAx X es t) : PE X (.List es pos) (tLst t) := pe_lst h.h
theorem pe_tx {X : Cx} {es : List Expr} {t : TA} {pos : Pos} {x1 : Nat} (h : PAx X es t) : PE X (.Tuple es x1 pos) (tTup t) := pe_tup h.h
theorem pe_cB {X : Cx} {x : Str} {p pos : Pos} {e : Expr} {es : List Expr} {t : TA} {id : String} {r : List V → Hp → VK → Prop} (hc : CallR X (.builtin id) r) (hg : Gl X x) (hm : X.mg x = none) (hv : bootBuiltins x = some (.builtin id)) (ha : PAx X (e :: es) t)
    (h1 : noStar e = true) (h2 : es.all noStar = true) (hn : x ≠ "__name__") (hdb : (x == ("__debug__" : Str)) = false) : PE X (.Call (.Name x p) (e :: es) [] pos) (tCB r t) :=
  pe_callB hc hg hm hv ha.h hn hdb (star_cons h1 es _) (star_any h2 pos _)
theorem pe_cTy {X : Cx} {x : Str} {p pos : Pos} {e : Expr} {es : List Expr} {t : TA} {T : String} {r : List V → Hp → VK → Prop} (hc : CallR X (.type T) r) (hg : Gl X x) (hm : X.mg x = none) (hv : bootBuiltins x = some (.type T)) (ha : PAx X (e :: es) t)
    (h1 : noStar e = true) (h2 : es.all noStar = true) (hn : x ≠ "__name__") (hdb : (x == ("__debug__" : Str)) = false) : PE X (.Call (.Name x p) (e :: es) [] pos) (tCB r t) :=
  pe_callTy hc hg hm hv ha.h hn hdb (star_cons h1 es _) (star_any h2 pos _)
theorem pi_r1 {X : Cx} {tg a : Expr} {ta : TA} {p pos : Pos} (hg : Gl X "range") (hm : X.mg "range" = none) (ha : PAx X [a] ta) (h1 : noStar a = true) : PI X tg (.Call (.Name "range" p) [a] [] pos) (iRng1 ta) :=
  pi_range1 hg hm ha.h (star_cons h1 [] _)
/-! ### a def of the text with its promise, as a caller meets it -/
structure Df (P : Program) (w : World) (K : PySem.W.Frag) (mg : Str → Option Value) (base : Heap) (x : Str) (k : Nat) (ps : List Str) (sp : Sp) : Prop where
  ex : ∃ f fd, mg x = some (.ref f) ∧ PySem.W.keepIn K (.ref f) = true ∧ Binds K fd ps [] ∧ FnOk P w K mg base CX0 k f fd ps sp
section
variable {X : Cx} {x : Str} {p pos : Pos} {e : Expr} {es : List Expr} {t : TA} {k j : Nat} {ps : List Str} {sp : Sp}
theorem pe_df (D : Df X.prog X.w X.K X.mg X.base x k ps sp) (hr : Room j X.A) (hj : k ≤ j) (hg : Gl X x) (ha : PAx X (e :: es) t) (h1 : noStar e = true) (h2 : es.all noStar = true) (hdb : (x == ("__debug__" : Str)) = false) :
    PE X (.Call (.Name x p) (e :: es) [] pos) (tCall sp [] E0 t) := by
  obtain ⟨f, fd, hm, hk, hb, F⟩ := D.ex
  exact pe_call F (hr.mono hj) hg hm hk hb .nil pass0 ha.h hdb (star_cons h1 es _) (star_any h2 pos _)
end
/-! ### names of Python's own that the text leaves alone -/
structure Bt (mg : Str → Option Value) : Prop where
  len : mg "len" = none
  range : mg "range" = none
  isinstance : mg "isinstance" = none
  int : mg "int" = none
  bool : mg "bool" = none
  str : mg "str" = none
  list : mg "list" = none
  tuple : mg "tuple" = none
  max : mg "max" = none
/-! ### isinstance(a, T), T a built-in type -/
section
variable {X : Cx} {a : Expr} {ta : TE} {p p2 pos : Pos} {T : Str} {n : String}
def rIsi (K : PySem.W.Frag) : List V → Hp → VK → Prop := fun xs H Q => ∃ x n t b, xs = [x, .ty n] ∧ TyOf K H x t ∧ PySem.W.kitOne K t (.type n) = some b ∧ Q (.bl b) H
theorem call_isi : CallR X (.builtin "isinstance") (rIsi X.K) := by
  intro pins s σ H xs us Q I r h
  obtain ⟨x, n, t, b, rfl, ty, e, q⟩ := h
  obtain ⟨u, v, rfl, ru, rv⟩ := r.two
  cases (show v = Value.type n from rv)
  exact isinst_ok I ru ty e fun tk => ⟨.bl b, H, I.tok _, rfl, q⟩
theorem pe_isi (hI : X.mg "isinstance" = none) (hT : X.mg T = none) (hv : bootBuiltins T = some (.type n)) (ha : PE X a ta) (h1 : noStar a = true) (gI : Gl X "isinstance") (gT : Gl X T) (hn : T ≠ "__name__") (hdb : (T == ("__debug__" : Str)) = false) :
    PE X (.Call (.Name "isinstance" p) [a, .Name T p2] [] pos) (tCB (rIsi X.K) (tCons ta (tCons (tC (.ty n)) tNil))) :=
  pe_cB (X := X) (p := p) (pos := pos) call_isi gI hI PyProof.Rows.boot_isinstance (pa_c ha (pa_c (pe_bltn (v := .ty n) (pos := p2) gT hT hv rfl hn hdb) pa_0 rfl) h1) h1 rfl (by decide) (by decide)
theorem kit_same (K : PySem.W.Frag) (n : String) : PySem.W.kitOne K (.type n) (.type n) = some true := by
  unfold PySem.W.kitOne
  rw [if_pos (beq_self_eq_true _)]
theorem kit_int_bool (K : PySem.W.Frag) : PySem.W.kitOne K (.type "int") (.type "bool") = some false :=
  (show (if (Value.type "int" == Value.type "bool") = true then some true else if PySem.W.kitMeta "bool" = true then (fastBuiltinMro "int").map (·.contains (.type "bool")) else none) = some false by decide +kernel)
end
/-! ### xs.append(e) -/
section
variable {X : Cx} {o e : Expr} {to te : TE} {apos cpos : Pos}
theorem few1 {e : Expr} (h : noStar e = true) (cpos : Pos) (env : Env) : ((backTo cpos (starEach [e] env)).all (fun x => !x.1) && (backToKw cpos (keywordEach [] env)).all (fun x => x.1.isSome)
      && decide ([e].length + ([] : List Keyword).length + (if ([] : List Keyword).isEmpty then 0 else 1) < 30)) = true := by
  rw [star_cons h]
  rfl
theorem pe_append (ho : PE X o to) (he : PE X e te) (h1 : noStar e = true) (hbase : attributeBase o "append" X.env (eval o X.env) = eval o X.env) (hline : (apos.endLine == cpos.line) = true) :
    PE X (.Call (.Attribute o "append" apos) [e] [] cpos) (tBM X.K "list" rAppend to (tCons te tNil)) :=
  pe_bm F.plainAttrs_list F.slot_list_append F.type_list_append mt_append ho (pa_c he pa_0 h1).h hbase (few1 h1 _ _) hline (star_cons h1 [] _) rfl
end
/-! ### lists of ints, tuples of ints compared -/
section
variable {X : Cx}
def rNeL (K : PySem.W.Frag) : R2 := fun x y H Q => ∃ (a b : Addr) (ns ms : List Int), x = .ref a ∧ y = .ref b ∧ SqL K H a (ns.map V.int) ∧ SqL K H b (ms.map V.int) ∧ Q (.bl (!decide (ns = ms))) H
theorem op_neL (hu : X.A.units + 64 < cLine) : OpR X (compareOp .NotEq) (rNeL X.K) := by
  intro pins s σ H x y v u Q I rx ry h
  obtain ⟨a, b, ns, ms, rfl, rfl, ha, hb, q⟩ := h
  cases rx
  cases ry
  obtain ⟨its, r1, p1, _⟩ := I.list ha
  obtain ⟨its2, r2, p2, _⟩ := I.list hb
  exact PySem.W.ne_intsK p1.isList (intsAre_of r1) p2.isList (intsAre_of r2) hu ⟨.bl (!decide (ns = ms)), H, I, rfl, q⟩
theorem shaped_tints (ns : List Int) : SeqAt.shaped (.tuple (ns.map PyData.int)) = true := by
  have h1 := PySem.W.depthAll_ints ns
  have h2 : PyData.depth (.tuple (ns.map PyData.int)) ≤ 64 := by simp only [PyData.depth]; omega
  show (PyData.canLay0 (.tuple (ns.map PyData.int)) && decide (PyData.depth (.tuple (ns.map PyData.int)) ≤ 64)) = true
  rw [Bool.and_eq_true]
  exact ⟨by simp only [PyData.canLay0]; exact PySem.W.canLayAll0_ints ns, decide_eq_true h2⟩
def rNeT (K : PySem.W.Frag) : R2 := fun x y H Q => ∃ (a b : Addr) (ns ms : List Int), x = .ref a ∧ y = .ref b ∧ SqT K H a (ns.map V.int) ∧ SqT K H b (ms.map V.int) ∧ Q (.bl (!decide (ns = ms))) H
theorem op_neT (hu : X.A.units + 64 < cLine) : OpR X (compareOp .NotEq) (rNeT X.K) := by
  intro pins s σ H x y v u Q I rx ry h
  obtain ⟨a, b, ns, ms, rfl, rfl, ha, hb, q⟩ := h
  cases rx
  cases ry
  obtain ⟨its, r1, ⟨o1, g1, c1, n1, d1⟩, _⟩ := I.tuple ha
  obtain ⟨its2, r2, ⟨o2, g2, c2, n2, d2⟩, _⟩ := I.tuple hb
  refine ne_dataH_same (reads_tuple_at g1 c1 d1 (by simpa using PySem.W.readsAll_of_ints (intsAre_of r1))) (reads_tuple_at g2 c2 d2 (by simpa using PySem.W.readsAll_of_ints (intsAre_of r2))) (shaped_tints ns) (shaped_tints ms) hu
    (by simp only [SeqAt.noMix]; exact PySem.W.noMix_ints ns ms) ⟨.bl (!decide (ns = ms)), H, I, ?_, q⟩
  show Value.bool _ = Value.bool _
  rw [PySem.Spec.same, PySem.W.same_ints]
end
theorem hu64 {A : Around} {k : Nat} (hr : Room k A) : A.units + 64 < cLine := hr.units
theorem same_new {H : Hp} {p : Addr} (h : H p = none) (o : HO) : Same H (upd H p o) := fun b u q => by rw [upd_ne (ne_of_none q h)]; exact q
end L2
namespace L2
open PySem PySem.Spec PyProof.Rows
/-! ### a cut: what the rest asks, said in one's own words -/
theorem pss_wk {X : Cx} {st : List Stmt} {R u : TS} (h : PSs X st u) (hR : ∀ D σ H, R D σ H → u D σ H) : PSs X st R := fun pins s σ H D I q => h pins s σ H D I (hR D σ H q)
/-- what holds ahead, what behind -/
def Tri (C Q : St → Hp → Prop) : TS := fun D σ H => C σ H ∧ ∀ σ' H', Q σ' H' → D.nx σ' H'
theorem iteB {c : Bool} {A B : Prop} (h : c = false) (q : B) : if c = true then A else B := by rw [h]; exact iteF q
theorem iteA {c : Bool} {A B : Prop} (h : c = true) (q : A) : if c = true then A else B := by rw [h]; exact iteT q
/-- tuples stay -/
def Tk (H H' : Hp) : Prop := ∀ b xs, H b = some (.tup xs) → H' b = some (.tup xs)
theorem Tk.refl (H : Hp) : Tk H H := fun _ _ h => h
theorem Tk.trans {H H1 H2 : Hp} (a : Tk H H1) (b : Tk H1 H2) : Tk H H2 := fun c o h => b c o (a c o h)
theorem Tk.lst {H : Hp} {p : Addr} {xs : List V} (h : H p = some (.lst xs)) (o : HO) : Tk H (upd H p o) := fun b ys e => by rw [upd_ne (ne_of e h (by intro z; cases z))]; exact e
theorem Tk.new {H : Hp} {p : Addr} (h : H p = none) (o : HO) : Tk H (upd H p o) := fun b ys e => by rw [upd_ne (ne_of_none e h)]; exact e
theorem Same.tk {H H' : Hp} (s : Same H H') : Tk H H' := fun b xs e => s b _ e
/-- a list that was not there ahead is written -/
theorem Same.write {H H' : Hp} {p : Addr} (s : Same H H') (h : H p = none) (o : HO) : Same H (upd H' p o) := fun b u e => by rw [upd_ne (ne_of_none e h)]; exact s b u e
theorem Same.new {H H' : Hp} {p : Addr} (s : Same H H') (h : H' p = none) (o : HO) : Same H (upd H' p o) := s.trans (same_new h o)
end L2
namespace L2
theorem at_head {α : Type} (x : α) (r : List α) : atI (x :: r) 0 = some x := atI_nat (xs := x :: r) (j := 0) rfl
theorem at_second {α : Type} (x y : α) (r : List α) : atI (x :: y :: r) 1 = some y := atI_nat (xs := x :: y :: r) (j := 1) rfl
end L2
namespace L2
open PySem PySem.Spec PyProof.Rows
/-! ### rules without default proofs: what stands within them is then met with its form known -/
section
variable {X : Cx} {pos : Pos}
theorem ps_sk {i : Nat} {x : Str} {e : Expr} {te : TE} {pos' : Pos} (hN : X.N.Nodup) (hi : X.N[i]? = some x) (hx : Loc X.env.scope x) (he : PE X e te) (hs : swapsWith e (some (.Name x pos')) pos.line X.env = pure false) (hf : X.fn x = true ∨ X.env.scope.names.lookup x = some .local) :
    PS X (.Assign [.Name x pos'] e pos) (tAsg te (gName i)) := ps_set hN hi hx he hs hf
theorem ps_ek {e : Expr} {te : TE} (he : PE X e te) (hs : swapsWith e none pos.line X.env = pure false) : PS X (.Expr e pos) (tDrop te) := ps_expr he hs
theorem pt_vk {e : Expr} {t : TE} (h : PE X e t) (he : ∀ whole, isTrue e X.env whole = (do let v ← whole; standAt e.pos; holding [v] (truthy v))) : PT X e (tB t) := pt_val h he
theorem ps_fk {tg iter : Expr} {body : List Stmt} {wi : TI} {g : TG} {tb : TS} (hp : PassesOwn (model X.prog X.w) X.A X.env X.xe) (hc : X.calm = true) (hi : PI X tg iter wi) (hg : PG X tg g) (hb : PSs X body tb)
    (hs : ∀ x, foldedSetIterable iter X.env x = pure x) : PS X (.For tg iter body [] pos) (tFor wi g tb) := ps_for hp hc hi hg hb hs
end
end L2
namespace L2
open PySem PySem.Spec PyProof.Rows
/-! ### some objects that are one's own: where they stand, what they hold -/
structure Slots (H H' : Hp) (l : List (Addr × HO)) : Prop where
  sm : Same H H'
  nd : (l.map (·.1)).Nodup
  has : ∀ p ∈ l, H' p.1 = some p.2
  fr : ∀ p ∈ l, H p.1 = none
section
variable {H H' : Hp} {l : List (Addr × HO)} {i : Nat} {a q : Addr} {o o' : HO}
theorem Slots.nil (s : Same H H') : Slots H H' [] := ⟨s, List.nodup_nil, (fun _ h => nomatch h), (fun _ h => nomatch h)⟩
theorem Slots.get (h : Slots H H' l) (e : l[i]? = some (a, o)) : H' a = some o := h.has (a, o) (List.mem_of_getElem? e)
theorem Slots.free (h : Slots H H' l) (e : l[i]? = some (a, o)) : H a = none := h.fr (a, o) (List.mem_of_getElem? e)
theorem Slots.ne {j : Nat} {b : Addr} {u : HO} (h : Slots H H' l) (e : l[i]? = some (a, o)) (e' : l[j]? = some (b, u)) (n : i ≠ j) : a ≠ b := by
  intro z
  have e1 : (l.map (·.1))[i]? = some a := by rw [List.getElem?_map, e]; rfl
  have e2 : (l.map (·.1))[j]? = some a := by rw [List.getElem?_map, e', z]; rfl
  obtain ⟨h1, q1⟩ := List.getElem?_eq_some_iff.mp e1
  obtain ⟨h2, q2⟩ := List.getElem?_eq_some_iff.mp e2
  exact n ((List.getElem_inj h.nd).mp (q1.trans q2.symm))
theorem Slots.new (h : Slots H H' l) (hq : H' q = none) (o : HO) : Slots H (upd H' q o) l :=
  ⟨h.sm.new hq o, h.nd, fun p hp => by rw [upd_ne (ne_of_none (h.has p hp) hq)]; exact h.has p hp, h.fr⟩
/-- one more -/
theorem Slots.add (h : Slots H H' l) (hq : H' q = none) (o : HO) : Slots H (upd H' q o) (l ++ [(q, o)]) := by
  refine ⟨h.sm.new hq o, ?_, fun p hp => ?_, fun p hp => ?_⟩
  · rw [List.map_append]
    refine List.nodup_append.mpr ⟨h.nd, by simp, fun x hx y hy z => ?_⟩
    simp only [List.map_cons, List.map_nil, List.mem_singleton] at hy
    subst hy z
    obtain ⟨p, hp, e⟩ := List.mem_map.mp hx
    exact ne_of_none (h.has p hp) hq e
  · rcases List.mem_append.mp hp with hp | hp
    · rw [upd_ne (ne_of_none (h.has p hp) hq)]
      exact h.has p hp
    · rw [List.mem_singleton.mp hp]
      exact upd_same
  · rcases List.mem_append.mp hp with hp | hp
    · exact h.fr p hp
    · rw [List.mem_singleton.mp hp]
      exact h.sm.free hq
/-- another object in its place -/
theorem Slots.swap (h : Slots H H' l) (hi : i < l.length) (hq : H' q = none) (o : HO) : Slots H (upd H' q o) (l.set i (q, o)) := by
  refine ⟨h.sm.new hq o, ?_, fun p hp => ?_, fun p hp => ?_⟩
  · rw [List.map_set]
    have nq : ∀ x ∈ l.map (·.1), x ≠ q := fun x hx z => by
      obtain ⟨p, hp, e2⟩ := List.mem_map.mp hx
      exact ne_of_none (h.has p hp) hq (e2.trans z)
    refine List.pairwise_iff_getElem.mpr fun j k hj hk hjk => ?_
    rw [List.length_set] at hj hk
    have base := (List.pairwise_iff_getElem.mp h.nd) j k hj hk hjk
    rw [List.getElem_set, List.getElem_set]
    by_cases c1 : i = j
    · rw [if_pos c1, if_neg (by omega)]
      exact fun z => nq _ (List.getElem_mem hk) z.symm
    · by_cases c2 : i = k
      · rw [if_neg c1, if_pos c2]
        exact nq _ (List.getElem_mem hj)
      · rw [if_neg c1, if_neg c2]
        exact base
  · rcases List.mem_or_eq_of_mem_set hp with hp | hp
    · rw [upd_ne (ne_of_none (h.has p hp) hq)]
      exact h.has p hp
    · rw [hp]
      exact upd_same
  · rcases List.mem_or_eq_of_mem_set hp with hp | hp
    · exact h.fr p hp
    · rw [hp]
      exact h.sm.free hq
/-- written anew -/
theorem Slots.set (h : Slots H H' l) (e : l[i]? = some (a, o)) (o' : HO) : Slots H (upd H' a o') (l.set i (a, o')) := by
  have hi : i < l.length := (List.getElem?_eq_some_iff.mp e).1
  have hm : (l.set i (a, o')).map (·.1) = l.map (·.1) := by
    rw [List.map_set]
    apply List.ext_getElem?
    intro k
    rw [List.getElem?_set, List.length_map]
    by_cases c : i = k
    · subst c
      rw [if_pos rfl, if_pos hi, List.getElem?_map, e]
      rfl
    · rw [if_neg c]
  refine ⟨h.sm.write (h.free e) o', by rw [hm]; exact h.nd, fun p hp => ?_, fun p hp => ?_⟩
  · obtain ⟨k, hk, ek⟩ := List.mem_iff_getElem.mp hp
    rw [List.length_set] at hk
    rw [List.getElem_set] at ek
    by_cases c : i = k
    · rw [if_pos c] at ek
      rw [← ek]
      exact upd_same
    · rw [if_neg c] at ek
      have e2 : l[k]? = some (p.1, p.2) := by rw [List.getElem?_eq_getElem hk, ek]
      rw [upd_ne (h.ne e2 e (fun z => c z.symm))]
      exact h.get e2
  · rcases List.mem_or_eq_of_mem_set hp with hp | hp
    · exact h.fr p hp
    · rw [hp]
      exact h.free e
end
end L2

set_option Elab.async false
set_option linter.all false
set_option maxRecDepth 100000
set_option maxHeartbeats 4000000
namespace L2
open PySem PySem.Spec PyProof.Rows
/-! ### y = [elt for x in range(a)], elt a text made of x alone -/
def tCompR (i : Nat) (ta : TA) (d : Int → Str) : TS := fun D σ H => ta σ H fun vs H1 => ∃ n : Nat, vs = [.int n] ∧ n ≤ 1000 ∧ ∀ p, H1 p = none → D.nx (σ.set i (some (.ref p))) (upd H1 p (.lst ((List.range n).map fun k => V.str (d (k : Nat)))))
theorem vals_strs : ∀ {ys : List Value} {xs : List Str}, CarriedAll ys (xs.map PyData.str) → Vals (xs.map V.str) ys
  | _, [], .nil => .nil
  | _, _ :: _, .cons h t => by
    cases h
    exact .cons ⟨_, rfl⟩ (vals_strs t)
theorem vals_from {d : Int → Str} : ∀ {vs ys : List Value} (off : Nat), Paired (fun v u => ∃ (k : Int) (t : Tok), v = .int k t ∧ Carried u (.str (d k))) vs ys → (∀ (j : Nat) v, vs[j]? = some v → ∃ t, v = .int ((off + j : Nat) : Int) t) → Vals ((List.range' off vs.length).map fun k => V.str (d (k : Nat))) ys
  | _, _, _, .nil, _ => .nil
  | v :: vs, u :: ys, off, .cons r t, g => by
    obtain ⟨k, t1, e1, c⟩ := r
    obtain ⟨t2, e2⟩ := g 0 v rfl
    rw [e1] at e2
    have ek : k = ((off + 0 : Nat) : Int) := by injection e2
    subst ek
    cases c
    rw [List.length_cons, List.range'_succ, List.map_cons]
    refine .cons ⟨_, rfl⟩ (vals_from (off + 1) t fun j v hv => ?_)
    obtain ⟨t3, e3⟩ := g (j + 1) v (by simpa using hv)
    exact ⟨t3, by rw [e3, show off + (j + 1) = off + 1 + j by omega]⟩
theorem obj_some {P : Program} {w : World} {H : Hp} {h : Heap} {a : Addr} {o : HO} (x : ObjOk P w H h a o) : ∃ ob, h.get? a = some ob := by
  induction o with
  | lst xs => obtain ⟨_, _, _, _, e⟩ := x; exact ⟨_, e⟩
  | tup xs => obtain ⟨_, _, _, ob, e, _⟩ := x; exact ⟨_, e⟩
  | dK kvs => obtain ⟨_, _, _, _, ob, _, _, e, _⟩ := x; exact ⟨_, e⟩
  | dT kvs => obtain ⟨_, _, _, _, ob, _, _, e, _⟩ := x; exact ⟨_, e⟩
  | set S n => obtain ⟨ob, _, _, _, e, _⟩ := x; exact ⟨_, e⟩
  | ins C dx fs => obtain ⟨_, _, _, e, _⟩ := x; exact ⟨_, e⟩
  | own y => exact x
  | xd fs => obtain ⟨_, ⟨od, _, _, e, _⟩, _⟩ := x; exact ⟨_, e⟩
  | rng lo hi => obtain ⟨_, _, _, e⟩ := x; exact ⟨_, e⟩
  | frz ob u ih => exact ⟨_, x.1⟩
  | tbl ps => exact ⟨_, x⟩
  | met f y => exact ⟨_, x⟩
  | ext φ => exact x.2.1
section
variable {X : Cx}
theorem ps_compR {i : Nat} {y x : Str} {py px rp cp pos spos : Pos} {a elt : Expr} {scope : Scope} {ta : TA} {d : Int → Str}
    (hN : X.N.Nodup) (hi : X.N[i]? = some y) (hy : X.env.scope.names.lookup y = some .local) (hc : X.calm = true)
    (hsw : swapsWith (.ListComp elt [⟨.Name x px, .Call (.Name "range" rp) [a] [] cp, [], 0⟩] scope pos) (some (.Name y py)) spos.line X.env = pure true)
    (hclos : closureFor scope X.env = pure []) (hcell : ∀ z ∈ scope.names, z.2 ≠ .cell) (hkind : scope.kind = .function)
    (hnames : ∀ z ∈ scope.names, z.2 = .local → scope.names.lookup z.1 = some .local) (hx : scope.names.lookup x = some .local)
    (hg : Gl X "range") (hm : X.mg "range" = none) (ha : PAx X [a] ta) (h1 : noStar a = true)
    (helt : ∀ (C : Addr) (k : Int) (t : Tok) (s₂ : Shared) (m₂ : Str → Option Value) (E' : Value → Shared → Prop), Mod X.K X.mg X.base → (∀ b o, X.base.get? b = some o → s₂.heap.get? b = some o) → X.env.globals = mainGlobals → X.env.builtins = builtinsNs → 0 ≤ k → k < 1000 →
      s₂.heap.Ns (compEnvC scope [] C X.env).locals m₂ → m₂ x = some (.int k t) → wpAny (model X.prog X.w) X.A (eval elt (compEnvC scope [] C X.env)) (fun v s₃ => Carried v (.str (d k)) ∧ Keeps s₂ s₃) E' s₂)
    (hs : ∀ x, foldedSetIterable (.Call (.Name "range" rp) [a] [] cp) X.env x = pure x) :
    PS X (.Assign [.Name y py] (.ListComp elt [⟨.Name x px, .Call (.Name "range" rp) [a] [] cp, [], 0⟩] scope pos) spos) (tCompR i ta d) := by
  intro pins s σ H D I h
  have hcls : (X.env.scope.kind == .class || (X.env.scope.kind == .module && X.env.locals != X.env.globals)) = false := by rw [I.ok.kind]; rfl
  refine wpAny_Assign_ListComp_free (fun _ => true) (fun v u => ∃ (k : Int) (t : Tok), v = .int k t ∧ Carried u (.str (d k))) hsw hclos hcell hkind hnames hx hy hcls ?_ hs
  refine Call_ (ld_blt I hg hm boot_range (PyProof.Rows.callWith_type1 (thn (ha.h cp pins s σ H _ I h) fun us s1 ⟨vs, H1, I1, r1, q1⟩ => ?_) (star_cons h1 [] _) rfl))
  obtain ⟨n, e, hn, q⟩ := q1
  subst e
  obtain ⟨u, rfl, t0, rfl⟩ := r1.one
  have hsl : n ≤ sizeLine := Nat.le_of_lt (small1000 hn)
  refine call_range_1 ?_
  have I2 : Inv X pins σ H1 { s1 with heap := s1.heap.push { cls := .type "range", data := .fields #[.int 0 s1.toks, .int n t0, .int 1 (s1.toks + 1)] }, toks := s1.toks + 1 + 1 } := I1.kept fun b o e => Heap.get?_push_of_some _ e
  generalize hs2 : ({ s1 with heap := s1.heap.push { cls := .type "range", data := .fields #[.int 0 s1.toks, .int n t0, .int 1 (s1.toks + 1)] }, toks := s1.toks + 1 + 1 } : Shared) = s2 at I2 ⊢
  have hr : IsRange s2.heap s1.heap.objs.size 0 n 1 s1.toks t0 (s1.toks + 1) := by rw [← hs2]; exact IsRange.new ..
  have hsz : Builtin.Range.rangeSize 0 (n : Int) 1 = (n : Int) := by rw [rangeSize_one]; split <;> omega
  clear hs2
  refine wpAny_pyIter_range hr (small_one (by decide) (by decide) (by omega) (by omega)) ?_
  obtain ⟨m, hm0, hl⟩ := I2.loc
  have Lne : X.env.locals ≠ s2.heap.objs.size := Nat.ne_of_lt hm0.lt
  have up : ∀ (s₃ : Shared), (∀ b o, b ∉ [s2.heap.objs.size] → (s2.heap.push { cls := .type "range_iterator", data := .fields #[rawInt 0, rawInt (Builtin.Range.rangeSize 0 (n : Int) 1), rawInt 1] }).get? b = some o → s₃.heap.get? b = some o) → ∀ b o, s2.heap.get? b = some o → s₃.heap.get? b = some o :=
    fun s₃ hk b o e => hk b o (fun hm => by rcases List.mem_cons.mp hm with rfl | hm; exact Nat.lt_irrefl _ (Heap.lt_size e); cases hm) (Heap.get?_push_of_some _ e)
  refine ⟨s2.heap.objs.size, [s2.heap.objs.size], [s2.heap.objs.size], n, _, _, m, rfl, (Walks.range (I.ok.hd hc) _ 0 1 n).bound, hsl, (by show IsRangeIter _ _ _ _ _; rw [hsz]; simpa using Heap.get?_push_size _ rfl), ?_, ?_, hm0.push _, ⟨?_, ?_⟩, ?_⟩
  · intro b hb
    show b < (s2.heap.push _).objs.size
    rw [Heap.size_push]
    rcases List.mem_cons.mp hb with rfl | hb
    · exact Nat.lt_succ_self _
    · cases hb
  · intro hm
    rcases List.mem_cons.mp hm with e | hm
    · exact Lne e
    · cases hm
  · intro C j v s₃ m₃ E' hC hP hn' hm hk _
    exact wpAny_pure ⟨rfl, ⟨s₃.heap, s₃.toks, rfl, fun _ _ e => e⟩⟩
  · intro C j v s₃ m₃ E' hC hP hp hn' hm hk _
    obtain ⟨hj, t, rfl⟩ : (j : Nat) < n ∧ ∃ t, v = .int (0 + (j : Nat) * 1) t := ⟨hP.1, by obtain ⟨t, e⟩ := hP.2; exact ⟨t, e⟩⟩
    refine wpAny_mono (helt C _ t s₃ m₃ E' I2.mod (fun b o e => up s₃ hk b o (I2.bk b o e)) I2.ok.glob I2.ok.blt (by omega) (by omega) hn' hm) (fun y s₄ h₄ => ⟨⟨_, _, rfl, h₄.1⟩, h₄.2⟩) fun _ _ e => e
  · intro Da h' tk ys vs' hnew hlD hplD hlen hP hF hn'' hk
    have keep : ∀ b o, b ≠ X.env.locals → s2.heap.get? b = some o → h'.get? b = some o := fun b o hb e =>
      hk b o hb (fun hm => by rcases List.mem_cons.mp hm with rfl | hm; exact Nat.lt_irrefl _ (Heap.lt_size e); cases hm) (Heap.get?_push_of_some _ e)
    have hDs : s2.heap.get? Da = none := by
      cases e : s2.heap.get? Da with
      | none => rfl
      | some o => rw [Heap.get?_push_of_some _ e] at hnew; cases hnew
    have hfree : H1 Da = none := by
      cases e : H1 Da with
      | none => rfl
      | some o =>
        obtain ⟨ob, e2⟩ := obj_some (I2.hok Da o e)
        rw [hDs] at e2
        cases e2
    have hDL : Da ≠ X.env.locals := fun z => by
      obtain ⟨o, _, _, ho, _⟩ := hm0
      rw [← z, hDs] at ho
      cases ho
    have ft : vs'.filter (fun _ => true) = vs' := by simp
    rw [ft] at hF
    have V1 : Vals ((List.range n).map fun k => V.str (d (k : Nat))) ys.toList := by
      have := vals_from (d := d) 0 hF fun j v hv => by
        obtain ⟨_, t, e⟩ := hP j v hv
        exact ⟨t, by rw [e, show (0 : Int) + (j : Nat) * 1 = ((0 + j : Nat) : Int) by omega]⟩
      rw [hlen, ← List.range_eq_range'] at this
      exact this
    have hiσ : i < σ.length := by rw [I2.len]; exact (List.getElem?_eq_some_iff.mp hi).1
    refine ⟨σ.set i (some (.ref Da)), upd H1 Da (.lst ((List.range n).map fun k => V.str (d (k : Nat)))), ?_, q Da hfree⟩
    have hok : HOk X.prog X.w (upd H1 Da (.lst ((List.range n).map fun k => V.str (d (k : Nat))))) h' := fun b o e => by
      by_cases hb : b = Da
      · subst hb
        rw [upd_same] at e
        cases e
        obtain ⟨k, ek⟩ := hplD
        refine ⟨by rw [List.length_map, List.length_range]; exact hsl, ys.toList, k, V1, ?_⟩
        rw [Array.toArray_toList]
        exact ek
      · rw [upd_ne hb] at e
        refine (I2.hok b o e).stay (fun c v hc z => keep c v ?_ z) (fun c z => by rw [upd_ne (ne_of_none z hfree)]; exact z) fun c xs z => by rw [upd_ne (ne_of_none z hfree)]; exact z
        rintro rfl
        rcases hc with rfl | hc
        · rw [I2.free] at e; cases e
        · rw [I2.free] at hc; cases hc
    have neL : ∀ b o, X.s₀.heap.get? b = some o → b ≠ X.env.locals := fun b o e => Nat.ne_of_lt (Nat.lt_of_lt_of_le (Heap.lt_size e) I2.ok.above)
    refine ⟨I2.ok, I2.os, I2.bare, ⟨fun b o e n hb hx => ?_, fun b o e n hb hx => ?_, fun b o e n hx => ?_, fun b o e hx => ?_, fun b xs e => ?_, fun b o u e => ?_, fun b ps e => ?_⟩, ⟨_, hn'', fun j y' v' e1 e2 e3 => ?_⟩, fun y' c e => ?_, ?_, fun y' c e => ?_, fun p hp => ?_, hok, by simpa using I2.len⟩
    · exact keep b o (neL b o e) (I2.base.keep b o e n hb hx)
    · obtain ⟨sl, e1⟩ := I2.base.slot b o e n hb hx
      exact ⟨sl, keep b _ (neL b o e) e1⟩
    · have z := I2.base.free b o e n hx
      obtain ⟨o', e1⟩ := I2.base.there b o e hx
      rw [upd_ne (fun z => by rw [z, hDs] at e1; cases e1)]
      exact z
    · obtain ⟨o', e1⟩ := I2.base.there b o e hx
      exact ⟨o', keep b o' (neL b o e) e1⟩
    · have z := I2.base.tups b xs e
      rw [upd_ne (ne_of_none z hfree)]
      exact z
    · have z := I2.base.frzs b o u e
      rw [upd_ne (ne_of_none z hfree)]
      exact z
    · obtain ⟨more, z⟩ := I2.base.tbls b ps e
      exact ⟨more, by rw [upd_ne (ne_of_none z hfree)]; exact z⟩
    · by_cases hj : j = i
      · subst hj
        rw [hi] at e1; cases e1
        rw [List.getElem?_set_self hiσ] at e2
        cases e2
        exact ⟨.ref Da, rfl, .inl ⟨hy, by simp⟩⟩
      · rw [List.getElem?_set_ne (Ne.symm hj)] at e2
        obtain ⟨u', r', z⟩ := hl j y' v' e1 e2 e3
        refine ⟨u', r', ?_⟩
        rcases z with ⟨k, e⟩ | ⟨k, c, e, o, ho, hd⟩
        · refine .inl ⟨k, ?_⟩
          have : y' ≠ y := fun e => hj (nodup_ix hN e1 (e ▸ hi))
          simp [this, e]
        · exact .inr ⟨k, c, e, o, keep c o (I2.cne y' c e) ho, hd⟩
    · obtain ⟨w', o, ho, hd⟩ := I2.cell y' c e
      exact ⟨w', o, keep c o (I2.cne y' c e) ho, hd⟩
    · rw [upd_ne hDL.symm]
      exact I2.free
    · obtain ⟨w', o, ho, hd⟩ := I2.cell y' c e
      rw [upd_ne (fun z => by rw [z, hDs] at ho; cases ho)]
      exact I2.freeC y' c e
    · obtain ⟨e, n, ne, nf, dd⟩ := I2.pin p hp
      refine ⟨keep p.1 p.2 ne e, ?_, ne, nf, dd⟩
      rw [upd_ne (fun z => by rw [z, hDs] at e; cases e)]
      exact n
theorem lookup_glob {env : Env} : ∀ {names : List (Str × NameKind)} {x : Str}, names.lookup x = some .globalImplicit →
    (names.map fun (n, k) => if (k == NameKind.free && env.scope.kind == .function && env.kindOf n == some .cell) then (n, NameKind.cell) else (n, k)).lookup x = some .globalImplicit
  | [], _, h => by simp at h
  | (n, k) :: r, x, h => by
    have ih := @lookup_glob env r x
    rw [List.map_cons]
    by_cases hx : (x == n) = true
    · rw [List.lookup_cons, hx] at h
      have hk : k = .globalImplicit := by simpa using h
      subst hk
      simp [List.lookup_cons, hx]
    · have hx' : (x == n) = false := by simpa using hx
      rw [List.lookup_cons, hx'] at h
      have h2 := ih (by simpa using h)
      by_cases c : (k == NameKind.free && env.scope.kind == .function && env.kindOf n == some .cell) = true
      · show List.lookup x ((if (k == NameKind.free && env.scope.kind == .function && env.kindOf n == some .cell) = true then (n, NameKind.cell) else (n, k)) :: _) = _
        rw [if_pos c, List.lookup_cons, hx']
        exact h2
      · show List.lookup x ((if (k == NameKind.free && env.scope.kind == .function && env.kindOf n == some .cell) = true then (n, NameKind.cell) else (n, k)) :: _) = _
        rw [if_neg c, List.lookup_cons, hx']
        exact h2
theorem lookup_relabel_glob {env : Env} {scope : Scope} {x : Str} (h : scope.names.lookup x = some .globalImplicit) : (relabel scope env).names.lookup x = some .globalImplicit := lookup_glob h
/-- its element: a written text and str of the name -/
theorem elt_cat {x : Str} {z : Str} {scope : Scope} {j : Nat} {p1 p2 p3 p4 p5 : Pos} (hm : X.mg "str" = none) (hkind : scope.kind = .function) (hx : scope.names.lookup x = some .local) (hg : scope.names.lookup ("str" : Str) = some .globalImplicit) (hz : z.length ≤ 100)
    (hdb : (x == ("__debug__" : Str)) = false) (C : Addr) (k : Int) (t : Tok) (s₂ : Shared) (m₂ : Str → Option Value) (E' : Value → Shared → Prop) (M : Mod X.K X.mg X.base) (bk : ∀ b o, X.base.get? b = some o → s₂.heap.get? b = some o) (gl : X.env.globals = mainGlobals) (bl : X.env.builtins = builtinsNs) (k0 : 0 ≤ k) (k1 : k < 1000)
    (hn : s₂.heap.Ns (compEnvC scope [] C X.env).locals m₂) (hk : m₂ x = some (.int k t)) :
    wpAny (model X.prog X.w) X.A (eval (.BinOp (.Constant (.str z) j p1) .Add (.Call (.Name "str" p2) [.Name x p3] [] p4) p5) (compEnvC scope [] C X.env)) (fun v s₃ => Carried v (.str (z ++ Str.ofString (toString k))) ∧ Keeps s₂ s₃) E' s₂ := by
  have kf : (compEnvC scope [] C X.env).scope.kind = .function := by simp [compEnvC, relabel, hkind]
  refine wpAny_BinOp (Calls.Constant_str ?_)
  obtain ⟨mb, b1, b2⟩ := M.blt
  refine wpAny_Call_Name_kw (Calls.Name_function_global kf ?_ (Calls.loadGlobal_builtin (by show Heap.Ns _ X.env.globals _; rw [gl]; exact M.glob.keeps bk) hm (by show Heap.Ns _ X.env.builtins _; rw [bl]; exact b1.keeps bk) ((b2 "str" (by decide)).trans PyProof.Rows.boot_str) ?_) (by decide))
  · show (relabel scope X.env).names.lookup ("str" : Str) = some .globalImplicit
    exact lookup_relabel_glob hg
  refine PyProof.Rows.callWith_type1 ?_ (star_cons rfl [] _) rfl
  rw [star_cons (e := .Name x p3) rfl]
  refine Calls.spliced_cons (wpAny_Name (wpAny_loadName_local kf (lookup_relabel_local hx) hn hk ?_) hdb)
  refine Calls.spliced_nil ?_
  refine PySem.P.str_of_int (Nat.lt_of_le_of_lt (Nat.log2_le_self _) (by omega)) ?_
  have hl := len_str_of_int k
  refine add_str (fun t' tk => ⟨.str _ _, ⟨_, _, rfl, fun _ _ e => e⟩⟩) (Nat.le_trans ?_ (show 2000 ≤ sizeLine by decide))
  omega
end
end L2
namespace L2
open PySem PySem.Spec PyProof.Rows
/-! ### z[lo:hi] of a text: some text no longer than it -/
def rSlS : V → Option Int → Option Int → Hp → VK → Prop := fun x _ _ H Q => ∃ z, x = .str z ∧ z.length ≤ 1000 ∧ ∀ y : Str, y.length ≤ z.length → Q (.str y) H
def partOf : Value → Option (Int × Tok)
  | .int i t => some (i, t)
  | _ => none
theorem isPart_of {v : Value} {o : Option Int} (h : IsPart v o) : v = partValue (partOf v) := by
  cases h <;> rfl
theorem sl_str {X : Cx} : SlR X rSlS := by
  intro pins s σ H x v vl vu lo hi sl Q I rx hs pl pu h
  obtain ⟨z, rfl, hz, q⟩ := h
  obtain ⟨t, rfl⟩ := rx
  obtain ⟨o, ho, hc, hd⟩ := hs
  rw [isPart_of pl, isPart_of pu] at hd
  refine ⟨"str", _, F.slot_str_getitem.lookup, typeIs_str s z t, wpAny_getItem_str_slice (l := partOf vl) (u := partOf vu) (st := none) ⟨o, ho, hc, hd⟩ rfl ?_⟩
  unfold sliceMade
  split
  · exact ⟨.str z, H, I, ⟨_, rfl⟩, q z (Nat.le_refl _)⟩
  · have hl : (⟨((slicePicked z (partOf vl) (partOf vu) none).filterMap (z.cps[·]?)).toArray⟩ : Str).length ≤ z.length := by
      show ((slicePicked z (partOf vl) (partOf vu) none).filterMap (z.cps[·]?)).toArray.size ≤ z.length
      rw [List.size_toArray]
      exact Nat.le_trans (List.length_filterMap_le _ _) (PySem.sliceIndices_le _ _ _)
    dsimp only [Made.post]
    exact ⟨Nat.le_trans hl (Nat.le_of_lt (small1000 hz)), ⟨.str _, H, I.tok _, ⟨_, rfl⟩, q _ hl⟩⟩
end L2

set_option Elab.async false
set_option linter.all false
set_option maxRecDepth 100000
set_option maxHeartbeats 4000000
namespace L2
open PySem PySem.Spec PyProof.Rows
/-! ### an exception on its way -/
/-- behind a call that raised: the exception stands at a, of the class cls; B: all that was there ahead, without the frames -/
structure Fly (P : Program) (w : World) (outer : List Env) (H : Hp) (s : Shared) (a : Addr) (cls : Value) (H' : Hp) (s' : Shared) : Prop where
  os : s'.os = s.os
  bare : AllBare s'.gens
  un : Un (frs outer) [] H H' s.heap s'.heap
  hok : HOk P w H' s'.heap
  fly : ∃ (B : Heap) (a0 : Value), Heap.FlyingW B outer a cls a0 s'.heap ∧ (∀ b o, s.heap.get? b = some o → b ∉ frs outer → ∃ o', B.get? b = some o') ∧ ∀ b o, H' b = some o → ∃ o', B.get? b = some o'
def CX1 (P : Program) (w : World) : CXT := fun outer H s E e s' => ∃ (a : Addr) (cls : Value) (H' : Hp), e = .ref a ∧ Fly P w outer H s a cls H' s' ∧ E cls none H'
section
variable {P : Program} {w : World}
/-- the tracked objects stay, where B has them -/
theorem hok_on {H' : Hp} {h h' B : Heap} (x : HOk P w H' h) (k1 : B.StaysIn h) (k2 : B.StaysIn h') (c : ∀ b o, H' b = some o → ∃ o', B.get? b = some o') : HOk P w H' h' := fun b o e =>
  (x b o e).stay (fun d u hd q => by
    have hd' : ∃ o', B.get? d = some o' := by
      rcases hd with rfl | hd
      · exact c _ _ e
      · exact c _ _ hd
    obtain ⟨o', q'⟩ := hd'
    have z := k1 d o' q'
    rw [q] at z
    cases z
    exact k2 d _ q') (fun _ q => q) fun _ _ q => q
/-- .. and the frames up to their slots -/
theorem un_on {fs : List Addr} {H H' : Hp} {h h1 h2 B : Heap} (u : Un fs [] H H' h h1) (k1 : B.StaysIn h1) (k2 : B.StaysIn h2) (up : h1.UpToSlots h2) (nf : ∀ b ∈ fs, ∃ o, h1.get? b = some o ∧ ∀ vs, o.data ≠ .fields vs)
    (c : ∀ b o, h.get? b = some o → b ∉ fs → ∃ o', B.get? b = some o') : Un fs [] H H' h h2 where
  keep := fun b o e n hb hx => by
    obtain ⟨o', q⟩ := c b o e hb
    have z := u.keep b o e n hb hx
    have z' := k1 b o' q
    rw [z] at z'
    cases z'
    exact k2 b _ q
  slot := fun b o e n hb hx => by
    obtain ⟨sl, z⟩ := u.slot b o e n hb hx
    obtain ⟨ob, q1, q2⟩ := nf b hb
    rw [z] at q1
    cases q1
    obtain ⟨sl', z'⟩ := up b _ z q2
    exact ⟨sl', z'⟩
  free := u.free
  there := fun b o e hx => by
    by_cases hb : b ∈ fs
    · obtain ⟨ob, q1, q2⟩ := nf b hb
      obtain ⟨sl', z'⟩ := up b _ q1 q2
      exact ⟨_, z'⟩
    · obtain ⟨o', q⟩ := c b o e hb
      exact ⟨_, k2 b _ q⟩
  tups := u.tups
  frzs := u.frzs
  tbls := u.tbls
theorem frs_cons {env : Env} {outer : List Env} {L : Addr} (h : env.frame = some L) : frs (env :: outer) = L :: frs outer := by
  unfold frs
  rw [List.filterMap_cons, h]
/-- an exception of a callee leaves this def too -/
theorem passes_on {K : PySem.W.Frag} {mg : Str → Option Value} {base : Heap} {N : List Str} {qual : Str} {scope : Scope} {f : Addr} {cd : Value} {A : Around} {outer : List Env} {s : Shared} {H : Hp} {E : XK} :
    Passes (CX1 P w) (cxOf (CX1 P w) P w K mg base N qual scope f cd A outer s H E) E := by
  intro pins σ H1 s1 e s' I h
  obtain ⟨a, cls, H', rfl, F, q⟩ := h
  obtain ⟨B, a0, hfl, c1, c2⟩ := F.fly
  have hfr := I.ok.frames
  refine wpAny_leaves_onW (outer := outer) (L := s.heap.objs.size) hfr rfl hfl fun h' hfl' up => ?_
  have ef : frs (cxOf (CX1 P w) P w K mg base N qual scope f cd A outer s H E).stack = s.heap.objs.size :: frs outer := frs_cons rfl
  have u1 : Un (s.heap.objs.size :: frs outer) [] H H1 s.heap s1.heap := I.base.mono (fun b hb => List.mem_cons_of_mem _ hb) fun b hb => hb
  have u2 : Un (s.heap.objs.size :: frs outer) [] H1 H' s1.heap s'.heap := by have := F.un; rw [ef] at this; exact this
  have u3 := u1.trans u2
  have ne : ∀ b o, s.heap.get? b = some o → b ≠ s.heap.objs.size := fun b o e => Nat.ne_of_lt (Heap.lt_size e)
  have u4 : Un (frs outer) [] H H' s.heap s'.heap := ⟨fun b o e n hb hx => u3.keep b o e n (fun z => by rcases List.mem_cons.mp z with z | z; exact ne b o e z; exact hb z) hx,
    fun b o e n hb hx => u3.slot b o e n (List.mem_cons_of_mem _ hb) hx, u3.free, u3.there, u3.tups, u3.frzs, u3.tbls⟩
  have cov : ∀ b o, s.heap.get? b = some o → b ∉ frs outer → ∃ o', B.get? b = some o' := fun b o e hb => by
    obtain ⟨o1, e1⟩ := u1.there b o e (by simp)
    refine c1 b o1 e1 fun z => ?_
    rw [ef] at z
    rcases List.mem_cons.mp z with z | z
    · exact ne b o e z
    · exact hb z
  have nf : ∀ b ∈ frs outer, ∃ o, s'.heap.get? b = some o ∧ ∀ vs, o.data ≠ .fields vs := fun b hb => (hfl.2.2.1.mem (by show b ∈ frs _; rw [ef]; exact List.mem_cons_of_mem _ hb)).2
  exact ⟨a, cls, H', rfl, ⟨F.os.trans I.os, F.bare, un_on u4 hfl.1 hfl'.1 up nf cov, hok_on F.hok hfl.1 hfl'.1 c2, B, a0, hfl', cov, c2⟩, q⟩
/-- an own class of errors under ValueError, as the top has made it -/
abbrev veMro : List Value := [.type "ValueError", .type "Exception", .type "BaseException", .type "object"]
theorem own_cls {K : PySem.W.Frag} {h : Heap} {mg : Str → Option Value} {x : Str} {C : Addr} {bmB : List Value} {newId : String} (X : K.In h) (hm : mg x = some (.ref C)) (q : PySem.W.excIn K C bmB newId = true) : OwnCls x C bmB newId mg h := by
  refine ⟨hm, ?_⟩
  unfold PySem.W.excIn at q
  split at q
  · rename_i dd cd sl ho
    split at q
    · rename_i C' bm k0 k1 k2 k3 n k5 hm hs
      simp only [Bool.and_eq_true, beq_iff_eq, Bool.not_eq_true'] at q
      obtain ⟨⟨⟨⟨⟨rfl, rfl⟩, hdel⟩, ht⟩, hok⟩, hni⟩ := q
      obtain ⟨nm, bs, mro, ns, qn, hd, sn, sub, ab, col, del⟩ := cd
      dsimp only at hm hdel hok hni
      subst hm hdel
      have hsl : sl = #[k0, k1, k2, k3, some (.builtin n), k5] := by
        obtain ⟨l⟩ := sl
        simp only at hs
        rw [hs]
      subst hsl
      exact ⟨bm, ns, nm, qn, bs, hd, sn, sub, ab, col, dd, k0, k1, k2, k3, k5, _, X _ _ ho, .of_isNs (PySem.W.isNs_of_in X hok), PySem.W.nsMap_none_of_in X hok hni, PySem.W.tail_of_in X ht⟩
    · cases q
  · cases q
/-- raise C(e, ..) -/
def tRaise (t : TA) (E : XK) (C : Addr) : TS := fun _ σ H => t σ H fun vs H1 => vs.length ≤ 1000 ∧ E (.ref C) none H1
theorem ps_raise {K : PySem.W.Frag} {mg : Str → Option Value} {base : Heap} {N : List Str} {qual : Str} {scope : Scope} {f : Addr} {cd : Value} {A : Around} {outer : List Env} {s : Shared} {H : Hp} {E : XK}
    {x : Str} {C : Addr} {np cpos pos : Pos} {e : Expr} {es : List Expr} {t : TA} (hq : PySem.W.excIn K C veMro "ValueError.__new__" = true) (hm : mg x = some (.ref C)) (hA : A.handled = none)
    (hg : Gl (cxOf (CX1 P w) P w K mg base N qual scope f cd A outer s H E) x) (ha : PAx (cxOf (CX1 P w) P w K mg base N qual scope f cd A outer s H E) (e :: es) t) (h1 : noStar e = true) (h2 : es.all noStar = true) (hdb : (x == ("__debug__" : Str)) = false) :
    PS (cxOf (CX1 P w) P w K mg base N qual scope f cd A outer s H E) (.Raise (some (.Call (.Name x np) (e :: es) [] cpos)) none pos) (tRaise t E C) := by
  intro pins s1 σ H1 D I h
  have O := own_cls (I.ok.mod.kin) hm hq
  obtain ⟨tl, Nn, nm, q, bs, hdct, sn, sub, ab, col, dd, k0, k1, k2, k3, k5, mN, hC, hN, hni, T⟩ := O.obj
  have FB := PySem.F.excBase_ValueError
  refine wpAny_Raise_call_subT (C := C) (nm := nm) (q := q) (N := Nn) (bs := bs) (bm := tl) (hdct := hdct) (sn := sn) (sub := sub) (ab := ab) (col := col) (dd := dd) (k0 := k0) (k1 := k1) (k2 := k2) (k3 := k3) (k5 := k5)
    FB (mN := mN) (T.hasType FB.hasBase) (I.ok.hd rfl) (star_any (es := e :: es) (by rw [List.all_cons, h1, h2]; rfl) cpos _) hni (ld_glob I hg hm ⟨rfl, ?_⟩ hdb)
  have hAA := ha.h cpos pins s1 σ H1 _ I h
  rw [star_cons h1 es _] at hAA ⊢
  refine Calls.evalArgs_plain (thn hAA fun us s2 ⟨vs, H2, I2, r2, hl, q2⟩ => ?_)
  refine ⟨rfl, by rw [← r2.length]; exact Nat.le_of_lt (small1000 hl), I2.bk _ _ hC, hN.keeps I2.bk, T.keeps I2.bk, fun h' ea hx => ?_⟩
  -- it leaves this frame
  have hfr := I2.ok.frames
  have FF := I2.stack
  have ef : frs (cxOf (CX1 P w) P w K mg base N qual scope f cd A outer s H E).stack = s.heap.objs.size :: frs outer := frs_cons rfl
  have st : (PySem.W.hideAll s2.heap (s.heap.objs.size :: frs outer)).StaysIn s2.heap := fun b o z => PySem.W.of_hideAll _ z
  have FFh : s2.heap.FunFrames (PySem.W.hideAll s2.heap (s.heap.objs.size :: frs outer)) (cxOf (CX1 P w) P w K mg base N qual scope f cd A outer s H E).stack := PySem.W.funFrames_hide FF fun env he b hb => by
    rw [← ef]
    exact List.mem_filterMap.mpr ⟨env, he, hb⟩
  refine wpAny_leaves_madeW (outer := outer) (L := s.heap.objs.size) hfr rfl st FFh hx fun h'' t0 fl _ _ up => ?_
  have cov : ∀ b o, s.heap.get? b = some o → b ∉ frs outer → ∃ o', (PySem.W.hideAll s2.heap (s.heap.objs.size :: frs outer)).get? b = some o' := fun b o z hb => by
    obtain ⟨o1, z1⟩ := I2.base.there b o z (by simp [cxOf])
    refine ⟨o1, PySem.W.hideAll_get _ z1 fun y => ?_⟩
    rcases List.mem_cons.mp y with y | y
    · exact Nat.lt_irrefl _ (y ▸ Heap.lt_size z)
    · exact hb y
  have c2 : ∀ b o, H2 b = some o → ∃ o', (PySem.W.hideAll s2.heap (s.heap.objs.size :: frs outer)).get? b = some o' := fun b o z => by
    obtain ⟨o1, z1⟩ := obj_some (I2.hok b o z)
    refine ⟨o1, PySem.W.hideAll_get _ z1 fun y => ?_⟩
    have := I2.stkFree b (by rw [ef]; exact y)
    rw [this] at z
    cases z
  have nf : ∀ b ∈ frs outer, ∃ o, h'.get? b = some o ∧ ∀ vs, o.data ≠ .fields vs := fun b hb => by
    obtain ⟨o, z1, z2⟩ := (FF.mem (by show b ∈ frs _; rw [ef]; exact List.mem_cons_of_mem _ hb)).2
    exact ⟨o, hx.keeps b o z1, z2⟩
  have u1 : Un (frs outer) [] H H2 s.heap s2.heap := I2.base
  have u2 : Un (frs outer) [] H H2 s.heap h' := u1.trans (Un.kept fun b o z => hx.keeps b o z)
  exact ⟨ea, .ref C, H2, rfl, ⟨I2.os, I2.bare, un_on u2 (fun b o z => hx.keeps b o (st b o z)) fl.1 up nf cov, hok_on (I2.hok.kept fun b o z => hx.keeps b o z) (fun b o z => hx.keeps b o (st b o z)) fl.1 c2, _, _, fl, cov, c2⟩, q2⟩
end
end L2

set_option Elab.async false
set_option linter.all false
set_option maxRecDepth 100000
set_option maxHeartbeats 4000000
namespace L2
open PySem PySem.Spec PyProof.Rows
/-! ### xs.pop(i), xs.insert(i, e) -/
theorem few2 {e e2 : Expr} (h : noStar e = true) (h2 : noStar e2 = true) (cpos : Pos) (env : Env) : ((backTo cpos (starEach [e, e2] env)).all (fun x => !x.1) && (backToKw cpos (keywordEach [] env)).all (fun x => x.1.isSome)
      && decide ([e, e2].length + ([] : List Keyword).length + (if ([] : List Keyword).isEmpty then 0 else 1) < 30)) = true := by
  rw [star_cons h, star_cons h2]
  rfl
theorem pe_popAt {X : Cx} {o e : Expr} {to te : TE} {apos cpos : Pos} (ho : PE X o to) (he : PE X e te) (h1 : noStar e = true) (hbase : attributeBase o "pop" X.env (eval o X.env) = eval o X.env) (hline : (apos.endLine == cpos.line) = true) :
    PE X (.Call (.Attribute o "pop" apos) [e] [] cpos) (tBM X.K "list" rPopAt to (tCons te tNil)) :=
  pe_bm F.plainAttrs_list F.slot_list_pop F.type_list_pop mt_popAt ho (pa_c he pa_0 h1).h hbase (few1 h1 _ _) hline (star_cons h1 [] _) rfl
def rInsert : V → List V → Hp → VK → Prop := fun x vs H Q => ∃ l xs i y, x = .ref l ∧ vs = [.int i, y] ∧ H l = some (.lst xs) ∧ 0 ≤ i ∧ i < 2 ^ 63 ∧ i.toNat ≤ xs.length ∧ xs.length < sizeLine ∧ Q .non (upd H l (.lst (xs.take i.toNat ++ y :: xs.drop i.toNat)))
theorem mt_insert {X : Cx} : MtM X "list.insert" rInsert := by
  intro pins s σ H x vs v us Q I rx rv h
  obtain ⟨l, xs, i, y, rfl, rfl, hH, h1, h2, hi, hz, q⟩ := h
  cases rx
  obtain ⟨u1, u2, rfl, ru, ru2⟩ := rv.two
  obtain ⟨t, rfl⟩ := ru
  obtain ⟨z, its, n, r, hl, e⟩ := I.lstM hH
  have hfit : Builtin.List.listFitsIndex i = true := fitsIndex_both (by omega) h2
  refine call_meets F.slot_list_insert ⟨_, e, rfl⟩ F.entry_list_insert (F.args_list_insert_3 _ _ _)
    (AutoSeq1.list_insert_list_int_val_1 l its.toArray n i t u2 (by rw [hfit]; decide) (by rw [List.size_toArray]; omega)) ⟨e, ?_⟩
  refine ⟨.non, _, I.lset (its' := its.take i.toNat ++ u2 :: its.drop i.toNat) hH e ?_ ((r.take _).append (.cons ru2 (r.drop _))) ?_, rfl, q⟩
  · have e1 : ¬ i < 0 := by omega
    have e2 : min i.toNat its.length = i.toNat := by omega
    simp only [if_neg e1, List.size_toArray, e2]
    simp [List.take_of_length_le]
  · rw [List.length_append, List.length_cons, List.length_take, List.length_drop]
    omega
theorem pe_insert {X : Cx} {o e e2 : Expr} {to te te2 : TE} {apos cpos : Pos} (ho : PE X o to) (he : PE X e te) (he2 : PE X e2 te2) (h1 : noStar e = true) (h2 : noStar e2 = true) (hbase : attributeBase o "insert" X.env (eval o X.env) = eval o X.env) (hline : (apos.endLine == cpos.line) = true) :
    PE X (.Call (.Attribute o "insert" apos) [e, e2] [] cpos) (tBM X.K "list" rInsert to (tCons te (tCons te2 tNil))) :=
  pe_bm F.plainAttrs_list F.slot_list_insert F.type_list_insert mt_insert ho (pa_c he (pa_c he2 pa_0 h2) h1).h hbase (few2 h1 h2 _ _) hline (star_cons h1 [e2] _) (by rw [star_cons h2]; rfl)
/-! ### o[i] = e, no default proofs -/
theorem ps_sub {X : Cx} {o i e : Expr} {te to ti : TE} {t : TSet} {spos pos : Pos} (he : PE X e te) (ho : PE X o to) (hi : PE X i ti) (hs0 : PSet X t)
    (hs : swapsWithSole [.Subscript o i spos] e pos.line X.env = pure false) (hw : swappedStores [.Subscript o i spos] e X.env = pure none) (h1 : (assignEach [.Subscript o i spos] X.env).map (·.2) = [assign (.Subscript o i spos) X.env])
    (ha : ∀ v, assign (.Subscript o i spos) X.env v = (do
      let ov ← holding [v] (eval o X.env)
      let iv ← holding [v, ov] (eval i X.env)
      standAt spos
      holding [v, ov, iv] (setItem ov iv v)
      release [v, ov, iv] [])) : PS X (.Assign [.Subscript o i spos] e pos) (tAsg te (gSub to ti t)) := ps_asg he (pg_sub ho hi hs0 ha) hs hw h1
/-! ### own classes -/
structure Mt (P : Program) (w : World) (K : PySem.W.Frag) (mg : Str → Option Value) (base : Heap) (C : Addr) (m : Str) (k : Nat) (ps : List Str) (sp : Sp) : Prop where
  cl : Cls K C
  ex : ∃ f fd, Meth K C m f ∧ Binds K fd ps [] ∧ FnOk P w K mg base CX0 k f fd ps sp
structure Mc (P : Program) (w : World) (K : PySem.W.Frag) (mg : Str → Option Value) (base : Heap) (x : Str) (C : Addr) (k : Nat) (ps : List Str) (sp : Sp) : Prop where
  ex : ∃ f fd, Mk K C f ∧ mg x = some (.ref C) ∧ Binds K fd ps [] ∧ FnOk P w K mg base CX0 k f fd ps sp
theorem pe_mt {X : Cx} {o e : Expr} {es : List Expr} {C : Addr} {m : Str} {k j : Nat} {ps : List Str} {sp : Sp} {ta : TE} {t : TA} {apos pos : Pos} {pl : Sem Bool} (he : PE X o ta) (D : Mt X.prog X.w X.K X.mg X.base C m k ps sp) (hr : Room j X.A) (hj : k ≤ j)
    (ha : PAx X (e :: es) t) (h1 : noStar e = true) (h2 : es.all noStar = true)
    (ht : eval (.Call (.Attribute o m apos) (e :: es) [] pos) X.env = (do
      let ov ← eval o X.env
      standAt apos.atName
      let (f, first) ← holding [ov] (getMethod ov m pl)
      callWith pos f first (backTo pos (starEach (e :: es) X.env)) (backToKw pos (keywordEach [] X.env)))) :
    PE X (.Call (.Attribute o m apos) (e :: es) [] pos) (tMeth C m sp [] E0 ta t) := by
  obtain ⟨f, fd, hm, hb, F⟩ := D.ex
  exact pe_meth he D.cl hm F (hr.mono hj) hb .nil pass0 ha.h (star_cons h1 es _) (star_any h2 pos _) ht
theorem pe_mt0 {X : Cx} {o : Expr} {C : Addr} {m : Str} {k j : Nat} {ps : List Str} {sp : Sp} {ta : TE} {apos pos : Pos} {pl : Sem Bool} (he : PE X o ta) (D : Mt X.prog X.w X.K X.mg X.base C m k ps sp) (hr : Room j X.A) (hj : k ≤ j)
    (ht : eval (.Call (.Attribute o m apos) [] [] pos) X.env = (do
      let ov ← eval o X.env
      standAt apos.atName
      let (f, first) ← holding [ov] (getMethod ov m pl)
      callWith pos f first (backTo pos (starEach [] X.env)) (backToKw pos (keywordEach [] X.env)))) :
    PE X (.Call (.Attribute o m apos) [] [] pos) (tMeth C m sp [] E0 ta tNil) := by
  obtain ⟨f, fd, hm, hb, F⟩ := D.ex
  exact pe_meth0 he D.cl hm F (hr.mono hj) hb .nil pass0 ht
theorem pe_mc {X : Cx} {x : Str} {p pos : Pos} {e : Expr} {es : List Expr} {C : Addr} {k j : Nat} {ps : List Str} {sp : Sp} {t : TA} (D : Mc X.prog X.w X.K X.mg X.base x C k ps sp) (hr : Room j X.A) (hj : k + 1 ≤ j) (hg : Gl X x)
    (ha : PAx X (e :: es) t) (h1 : noStar e = true) (h2 : es.all noStar = true) (hdb : (x == ("__debug__" : Str)) = false) : PE X (.Call (.Name x p) (e :: es) [] pos) (tMake C sp [] E0 t) := by
  obtain ⟨f, fd, hm, hx, hb, F⟩ := D.ex
  exact pe_make hm F (hr.mono hj) hg hx hb .nil pass0 ha.h hdb (star_cons h1 es _) (star_any h2 pos _)
theorem pe_mc0 {X : Cx} {x : Str} {p pos : Pos} {C : Addr} {k j : Nat} {ps : List Str} {sp : Sp} (D : Mc X.prog X.w X.K X.mg X.base x C k ps sp) (hr : Room j X.A) (hj : k + 1 ≤ j) (hg : Gl X x)
    (hdb : (x == ("__debug__" : Str)) = false) : PE X (.Call (.Name x p) [] [] pos) (tMake C sp [] E0 tNil) := by
  obtain ⟨f, fd, hm, hx, hb, F⟩ := D.ex
  exact pe_make0 hm F (hr.mono hj) hg hx hb .nil pass0 hdb
/-! ### defs that may raise -/
structure Dx (P : Program) (w : World) (K : PySem.W.Frag) (mg : Str → Option Value) (base : Heap) (x : Str) (k : Nat) (ps : List Str) (sp : Sp) : Prop where
  ex : ∃ f fd, mg x = some (.ref f) ∧ PySem.W.keepIn K (.ref f) = true ∧ Binds K fd ps [] ∧ FnOk P w K mg base (CX1 P w) k f fd ps sp
theorem pe_dx {X : Cx} {x : Str} {p pos : Pos} {e : Expr} {es : List Expr} {t : TA} {k j : Nat} {ps : List Str} {sp : Sp} {E : XK} (D : Dx X.prog X.w X.K X.mg X.base x k ps sp) (hr : Room j X.A) (hj : k ≤ j) (hg : Gl X x) (hx : Passes (CX1 X.prog X.w) X E)
    (ha : PAx X (e :: es) t) (h1 : noStar e = true) (h2 : es.all noStar = true) (hdb : (x == ("__debug__" : Str)) = false) :
    PE X (.Call (.Name x p) (e :: es) [] pos) (tCall sp [] E t) := by
  obtain ⟨f, fd, hm, hk, hb, F⟩ := D.ex
  exact pe_call F (hr.mono hj) hg hm hk hb .nil hx ha.h hdb (star_cons h1 es _) (star_any h2 pos _)
section
variable {P : Program} {w : World} {K : PySem.W.Frag} {mg : Str → Option Value} {base : Heap}
theorem Fun.okX {x qual : Str} {st : Stmt} {f : Addr} {fd : FuncData} {N ps : List Str} {k : Nat} {sp : Sp} (F : Fun K x qual st f fd) (S : FnScope N ps (defScope st)) (len : ∀ vs H Q E, sp vs H Q E → vs.length = ps.length)
    (hbody : ∀ (cdv : Value) (A : Around) (outer : List Env) (s : Shared) (H : Hp) (vs : List V) (Q : VK) (E : XK), Room k (A.deeper (envOfC qual (defScope st) s.heap.objs.size f cdv)) → sp vs H Q E →
      ∃ t, PSs (cxOf (CX1 P w) P w K mg base N qual (defScope st) f cdv A outer s H E) (defBody st) t ∧ t { nx := fun _ H' => Q .non H', rt := Q } (start N vs) H) : FnOk P w K mg base (CX1 P w) (k + 1) f fd ps sp := by
  obtain ⟨oc, od, kV, doc, pm, an, cdv, ct, osl, rfl, lk, hcd⟩ := F.ex
  exact fn_of lk hcd S len fun A outer s H vs Q E hr hsp => hbody cdv A outer s H vs Q E hr hsp
/-- where no exception is wished, none comes -/
theorem FnOk.calm {k : Nat} {f : Addr} {fd : FuncData} {ps : List Str} {sp sp0 : Sp} (F : FnOk P w K mg base (CX1 P w) k f fd ps sp) (h : ∀ vs H Q E, sp0 vs H Q E → sp vs H Q E0) : FnOk P w K mg base CX0 k f fd ps sp0 :=
  ⟨fun vs H Q E q => F.len vs H Q E0 (h _ _ _ _ q), fun A outer s H args us vs Q E hr he hb hv hs => codeAny_mono (F.run A outer s H args us vs Q E0 hr he hb hv (h _ _ _ _ hs)) fun r s' q => by
    cases r with
    | ok v => cases v <;> exact q
    | error e => obtain ⟨_, _, _, _, _, z⟩ := (show CX1 P w outer H s E0 e s' from q); exact z⟩
end
end L2
namespace L2
open PySem PySem.Spec PyProof.Rows
/-! ### more of the objects that are one's own -/
section
variable {H H' : Hp} {l : List (Addr × HO)} {i : Nat} {a p q r : Addr} {o o' : HO}
theorem Slots.same {H2 : Hp} (h : Slots H H' l) (s : Same H' H2) : Slots H H2 l := ⟨h.sm.trans s, h.nd, fun p hp => s _ _ (h.has p hp), h.fr⟩
/-- the base grows, and so does the heap -/
theorem Slots.both (h : Slots H H' l) (n : ∀ p ∈ l, p.1 ≠ r) (o : HO) : Slots (upd H r o) (upd H' r o) l := by
  refine ⟨fun b u e => ?_, h.nd, fun p hp => by rw [upd_ne (n p hp)]; exact h.has p hp, fun p hp => by rw [upd_ne (n p hp)]; exact h.fr p hp⟩
  by_cases c : b = r
  · subst c
    rw [upd_same] at e ⊢
    exact e
  · rw [upd_ne c] at e ⊢
    exact h.sm b u e
theorem Slots.bothNew (h : Slots H H' l) (hr : H' r = none) (o : HO) : Slots (upd H r o) (upd H' r o) l := h.both (fun p hp => ne_of_none (h.has p hp) hr) o
theorem Slots.bothSet (h : Slots H H' l) (hr : H r = some o) (o' : HO) : Slots (upd H r o') (upd H' r o') l := h.both (fun p hp z => by
  have := h.fr p hp
  rw [z, hr] at this
  cases this) o'
/-- an object that is there already takes a place -/
theorem Slots.take (h : Slots H H' l) (hi : i < l.length) (hq : H' q = some o) (hf : H q = none) (n : ∀ p ∈ l, p.1 ≠ q) : Slots H H' (l.set i (q, o)) := by
  refine ⟨h.sm, ?_, fun p hp => ?_, fun p hp => ?_⟩
  · rw [List.map_set]
    have nq : ∀ x ∈ l.map (·.1), x ≠ q := fun x hx z => by
      obtain ⟨p, hp, e2⟩ := List.mem_map.mp hx
      exact n p hp (e2.trans z)
    refine List.pairwise_iff_getElem.mpr fun j k hj hk hjk => ?_
    rw [List.length_set] at hj hk
    have base := (List.pairwise_iff_getElem.mp h.nd) j k hj hk hjk
    rw [List.getElem_set, List.getElem_set]
    by_cases c1 : i = j
    · rw [if_pos c1, if_neg (by omega)]
      exact fun z => nq _ (List.getElem_mem hk) z.symm
    · by_cases c2 : i = k
      · rw [if_neg c1, if_pos c2]
        exact nq _ (List.getElem_mem hj)
      · rw [if_neg c1, if_neg c2]
        exact base
  · rcases List.mem_or_eq_of_mem_set hp with hp | hp
    · exact h.has p hp
    · rw [hp]
      exact hq
  · rcases List.mem_or_eq_of_mem_set hp with hp | hp
    · exact h.fr p hp
    · rw [hp]
      exact hf
end
end L2

set_option Elab.async false
set_option linter.all false
set_option maxRecDepth 100000
set_option maxHeartbeats 4000000
namespace L2
open PySem PySem.Spec PyProof.Rows
/-! ### try: f(e, ..) except C: suite -/
/-- within an except suite: the exception stands at a -/
abbrev Cx.suite (X : Cx) (a : Addr) (oe : Obj) : Cx := { X with A := X.A.mark (some (.ref a)), calm := false, pn := (a, oe) :: X.pn, xe := fun _ _ => False }
section
variable {X : Cx} {pins : List (Addr × Obj)} {σ : St} {H : Hp} {s : Shared} {a : Addr} {oe : Obj}
theorem Inv.suite (I : Inv X pins σ H s) (he : s.heap.get? a = some oe) (hH : H a = none) (h1 : a ≠ X.env.locals) (h2 : a ∉ X.fs) (h3 : ∀ v, oe.data ≠ .cell v) : Inv (X.suite a oe) pins σ H s := by
  have ok := I.ok
  refine ⟨⟨ok.mod, ok.kind, ok.glob, ok.blt, ok.above, ok.inj, ok.has, ok.cab, (fun z => by cases z), ok.frames, ok.stk, ok.exf, ok.bs, ok.bsz, ok.noex, ok.exfs, ok.funs, ok.frf⟩, I.os, I.bare, I.base, I.loc, I.cell, I.free, I.freeC, fun p hp => ?_, I.hok, I.len⟩
  rcases List.mem_cons.mp hp with e | hp
  · rw [e]
    exact ⟨he, hH, h1, h2, h3⟩
  · exact I.pin p hp
theorem Inv.unsuite (I : Inv (X.suite a oe) pins σ H s) (hd : X.calm = true → X.A.handled = none) : Inv X pins σ H s := by
  have ok := I.ok
  exact ⟨⟨ok.mod, ok.kind, ok.glob, ok.blt, ok.above, ok.inj, ok.has, ok.cab, hd, ok.frames, ok.stk, ok.exf, ok.bs, ok.bsz, ok.noex, ok.exfs, ok.funs, ok.frf⟩, I.os, I.bare, I.base, I.loc, I.cell, I.free, I.freeC, (fun p hp => I.pin p (List.mem_cons_of_mem _ hp)), I.hok, I.len⟩
theorem PA.nox {es : List Expr} {t : TA} (h : PA X.nox es t) : PA X es t := fun pos pins s σ H Q I hw =>
  wpAny_mono (h pos pins s σ H Q (I.wish _) hw) (fun _ _ ⟨v, H', I', r, q⟩ => ⟨v, H', I'.unwish, r, q⟩) fun _ _ z => False.elim z
/-- the name that an except clause bound goes -/
theorem unbind_ok {M : Model} {A : Around} {E : Value → Shared → Prop} {i : Nat} {x : Str} {pos : Pos} {Q : Unit → Shared → Prop} (I : Inv X pins σ H s) (hN : X.N.Nodup) (hi : X.N[i]? = some x) (hk : X.env.scope.names.lookup x = some .local)
    (h : ∀ s', Inv X pins (σ.set i none) H s' → Q () s') : wpAny M A (do bindName X.env x .none; unbindBehindTheSuite X.env x pos) Q E s := by
  obtain ⟨m, hn, hl⟩ := id I.loc
  have hcls : (X.env.scope.kind == .class || (X.env.scope.kind == .module && X.env.locals != X.env.globals)) = false := by rw [I.ok.kind]; rfl
  have hiσ : i < σ.length := by rw [I.len]; exact (List.getElem?_eq_some_iff.mp hi).1
  have cne := I.cne
  refine wpAny_nameGoes_keeps hk hn hcls fun h' v hn' hs => ?_
  obtain ⟨oL, _, _, hoL, _⟩ := id hn
  refine h _ ⟨I.ok, I.os, I.bare, ⟨fun b o e n hb hx => ?_, fun b o e n hb hx => ?_, I.base.free, fun b o e hx => ?_, I.base.tups, I.base.frzs, I.base.tbls⟩, ⟨_, hn', fun j y v' e1 e2 e3 => ?_⟩, fun y c e => ?_, I.free, I.freeC, fun p hp => ?_, fun b ob e => ?_, by simpa using I.len⟩
  · exact (hs.2 b (Nat.ne_of_lt (Nat.lt_of_lt_of_le (Heap.lt_size e) I.ok.above))).trans (I.base.keep b o e n hb hx)
  · obtain ⟨sl, e1⟩ := I.base.slot b o e n hb hx
    exact ⟨sl, (hs.2 b (Nat.ne_of_lt (Nat.lt_of_lt_of_le (Heap.lt_size e) I.ok.above))).trans e1⟩
  · obtain ⟨o', e1⟩ := I.base.there b o e hx
    exact ⟨o', (hs.2 b (Nat.ne_of_lt (Nat.lt_of_lt_of_le (Heap.lt_size e) I.ok.above))).trans e1⟩
  · by_cases hj : j = i
    · subst hj
      rw [List.getElem?_set_self hiσ] at e2
      cases e2
    · rw [List.getElem?_set_ne (Ne.symm hj)] at e2
      obtain ⟨u', r', q⟩ := hl j y v' e1 e2 e3
      refine ⟨u', r', ?_⟩
      rcases q with ⟨k, e⟩ | ⟨k, c, e, z⟩
      · refine .inl ⟨k, ?_⟩
        have : y ≠ x := fun e => hj (nodup_ix hN e1 (e ▸ hi))
        simp [this, e]
      · exact .inr ⟨k, c, e, z.sameBut hs (cne y c e)⟩
  · obtain ⟨w', z⟩ := I.cell y c e
    exact ⟨w', z.sameBut hs (cne y c e)⟩
  · obtain ⟨e, n, ne, nf, d⟩ := I.pin p hp
    exact ⟨(hs.2 p.1 ne).trans e, n, ne, nf, d⟩
  · refine (I.hok b ob e).stay (fun c w' hc q => (hs.2 c ?_).trans q) (fun _ q => q) fun _ _ q => q
    rintro rfl
    have hf := I.free
    rcases hc with rfl | hc
    · rw [hf] at e; cases e
    · rw [hf] at hc; cases hc
end
/-- what a handler's clause meets: the exception has landed in this frame -/
theorem landed {X : Cx} {pins : List (Addr × Obj)} {σ : St} {H H2 : Hp} {s s' : Shared} {a : Addr} {cls : Value} {E : Value → Shared → Prop} {Q : Unit → Shared → Prop} (hst : X.stack = X.env :: X.outer) (hfr : X.env.frame = some X.env.locals)
    (I : Inv X pins σ H s) (FL : Fly X.prog X.w X.stack H s a cls H2 s')
    (k : ∀ (B : Heap) (a0 : Value) (h' : Heap), Heap.FlyingW B X.stack a cls a0 h' → (∀ h'', Heap.FlyingW B X.stack a cls a0 h'' → h'.UpToSlots h'' → ∃ oe, oe.cls = cls ∧ Inv X pins σ H2 { s' with heap := h'' } ∧ Inv (X.suite a oe) pins σ H2 { s' with heap := h'' }) →
      Q () { s' with heap := h' }) :
    wpAny (model X.prog X.w) X.A (noteFrame (.ref a) X.env) (fun _ s₂ => wpAny (model X.prog X.w) X.A (setFlight (.ref a) none) Q E s₂) E s' := by
  obtain ⟨B, a0, hfl, c1, c2⟩ := FL.fly
  have hfrm : X.A.frames = some (X.env :: X.outer) := I.ok.frames.trans (congrArg some hst)
  have hfl' : Heap.FlyingW B (X.env :: X.outer) a cls a0 s'.heap := by rw [← hst]; exact hfl
  refine wpAny_looks_onW hfrm hfr hfl' fun h1 held up1 => ?_
  refine wpAny_landsW held fun h2 fl2 up2 => ?_
  have fl2' : Heap.FlyingW B X.stack a cls a0 h2 := by rw [hst]; exact fl2
  have up := up1.trans up2
  refine k B a0 h2 fl2' fun h3 fl3 up3 => ?_
  have up' := up.trans up3
  have nf : ∀ b ∈ frs X.stack, ∃ o, s'.heap.get? b = some o ∧ ∀ vs, o.data ≠ .fields vs := fun b hb => (hfl.2.2.1.mem hb).2
  have J : Inv X pins σ H2 { s' with heap := h3 } := I.call' (s' := { s' with heap := h3 }) (ch := []) FL.os (un_on FL.un hfl.1 fl3.1 up' nf c1) (hok_on FL.hok hfl.1 fl3.1 c2) FL.bare (fun b z => absurd z (by simp))
  obtain ⟨oe, vs, he, hcl, hd, _⟩ := fl3.first
  refine ⟨oe, hcl, J, J.suite he ?_ ?_ ?_ ?_⟩
  · cases q : H2 a with
    | none => rfl
    | some o =>
      obtain ⟨o', z⟩ := c2 a o q
      rw [hfl.2.1] at z
      cases z
  · intro z
    obtain ⟨m, ⟨o', es, ep, ho', hd', _⟩, _⟩ := J.loc
    have he' : h3.get? a = some oe := he
    have ho2 : h3.get? X.env.locals = some o' := ho'
    rw [← z, he'] at ho2
    cases ho2
    rw [hd] at hd'
    cases hd'
  · intro z
    obtain ⟨o', z1, z2⟩ := nf a (by rw [hst, frs_cons hfr]; exact List.mem_cons_of_mem _ z)
    obtain ⟨sl, z3⟩ := up' a o' z1 z2
    have he' : h3.get? a = some oe := he
    rw [he'] at z3
    cases z3
    exact z2 vs hd
  · intro v z
    rw [hd] at z
    cases z
/-- the call in the try's body: its value is dropped; its exception lands -/
def tTry (t : TA) (sp : Sp) (C : Addr) (ts : Addr → TS) : TS := fun D σ H => t σ H fun vs H1 => sp (vs ++ []) H1 (fun _ H2 => D.nx σ H2) (fun cls _ H2 => cls = .ref C ∧ ∀ a, ts a { nx := D.nx, rt := fun _ _ => False } σ H2)
def tTryAs (t : TA) (sp : Sp) (C : Addr) (i : Nat) (ts : Addr → TS) : TS := fun D σ H => t σ H fun vs H1 => sp (vs ++ []) H1 (fun _ H2 => D.nx σ H2) (fun cls _ H2 => cls = .ref C ∧ ∀ a, ts a { nx := fun σ' H' => D.nx (σ'.set i none) H', rt := fun _ _ => False } (σ.set i (some (.ref a))) H2)
theorem cls_looks {M : Model} {h : Heap} {a : Addr} {oe : Obj} {c : Value} (he : h.get? a = some oe) (hc : oe.cls = c) : PySem.W.Looks M h (typeOf (.ref a)) c := hc ▸ (PySem.W.Looks.ld he).andThen .now
theorem ps_try {X : Cx} {g cn : Str} {p pos epos cp hpos tpos : Pos} {e : Expr} {es : List Expr} {t : TA} {k j : Nat} {ps : List Str} {sp : Sp} {C CC : Addr} {b₀ : Stmt} {suite : List Stmt} {ts : Addr → TS}
    (D0 : Dx X.prog X.w X.K X.mg X.base g k ps sp) (hr : Room j X.A) (hj : k ≤ j) (hg : Gl X g) (ha : PAx X.nox (e :: es) t) (h1 : noStar e = true) (h2 : es.all noStar = true) (hdb : (g == ("__debug__" : Str)) = false)
    (hsw : swapsWith (.Call (.Name g p) (e :: es) [] pos) none epos.line X.env = pure false) (hc : Gl X cn) (hcm : X.mg cn = some (.ref CC)) (hcd : (cn == ("__debug__" : Str)) = false) (hx : PySem.W.exmOne X.K (.ref C) (.ref CC) = some true)
    (hst : X.stack = X.env :: X.outer) (hfr : X.env.frame = some X.env.locals) (hsu : ∀ (a : Addr) (oe : Obj), oe.cls = .ref C → PSs (X.suite a oe) (b₀ :: suite) (ts a)) :
    PS X (.Try [.Expr (.Call (.Name g p) (e :: es) [] pos) epos] [.ExceptHandler (some (.Name cn cp)) none (b₀ :: suite) hpos] [] [] tpos) (tTry t sp C ts) := by
  intro pins s σ H D I h
  obtain ⟨f, fd, hm, hk, hb, F⟩ := D0.ex
  refine wpAny_Try_except (wpAny_execs_cons (wpAny_Expr_any ?_ I.quiet hsw))
  refine wpAny_Call_Name_kw (ld_glob I hg hm ?_ hdb)
  refine PySem.W.callWith_K (h₀ := X.base) I.ok.mod.kin hk ?_ (star_cons h1 es _) (star_any h2 pos _)
  refine wpAny_mono (ha.h pos pins s σ H _ (I.wish _) h) (fun us s1 ⟨vs, H1, I1, r, q⟩ => ⟨I1.kIn, ?_⟩) fun _ _ z => False.elim z
  have J := I1.unwish
  have r2 : Vals (vs ++ []) (us ++ []) := r.append .nil
  have hl : (us ++ []).length = ps.length := by rw [← r2.length]; exact F.len _ _ _ _ q
  refine wpAny_call (codeAny_mono (F.run X.A X.stack s1 H1 ⟨us, []⟩ (us ++ []) (vs ++ []) _ _ (hr.mono hj) J.env0 (hb s1 us J.kIn hl) r2 q) fun r s' hq => ?_)
  cases r with
  | ok fl =>
    cases fl with
    | ret u =>
      obtain ⟨v, H2, J2, _, q2⟩ := J.after hq
      exact wpAny_execs_nil (wpAny_execs_nil ⟨σ, H2, J2, q2⟩)
    | next => exact False.elim hq
    | brk => exact False.elim hq
    | cont => exact False.elim hq
  | error x =>
    dsimp only [CR] at hq
    obtain ⟨a, cls, H2, rfl, FL, rfl, q2⟩ := hq
    refine landed hst hfr J FL fun B a0 h' fl2 kk => ?_
    obtain ⟨oe, hcl, J2, JS⟩ := kk h' fl2 (.refl _)
    refine wpAny_handleBy_cons (codeAny_handlers_test ?_) (by intro q; cases q)
    refine ld_glob (X := X.suite a oe) JS hc hcm ?_ hcd
    obtain ⟨ob, he, hcl2⟩ := fl2.there
    refine (PySem.W.exm_one (K := X.K) JS.kIn (cls_looks he hcl2) hx).here ?_
    refine codeAny_handlers_suite ?_
    refine lands_againW fl2 fun h3 fl3 up3 => ?_
    obtain ⟨oe3, hcl3, J3, JS3⟩ := kk h3 fl3 up3
    refine wpAny_mono (hsu a oe3 hcl3 pins _ σ H2 _ JS3 (q2 a)) (fun fl s4 h4 => ?_) fun _ _ z => False.elim z
    cases fl with
    | next => obtain ⟨σ', H', I', q'⟩ := h4; exact ⟨σ', H', I'.unsuite I.ok.hd, q'⟩
    | brk => obtain ⟨σ', H', I', q'⟩ := h4; exact False.elim q'
    | cont => obtain ⟨σ', H', I', q'⟩ := h4; exact False.elim q'
    | ret u => obtain ⟨v, σ', H', I', r', q'⟩ := h4; exact False.elim q'
theorem ps_tryAs {X : Cx} {g cn n : Str} {p pos epos cp hpos tpos : Pos} {e : Expr} {es : List Expr} {t : TA} {i k j : Nat} {ps : List Str} {sp : Sp} {C CC : Addr} {b₀ : Stmt} {suite : List Stmt} {ts : Addr → TS}
    (D0 : Dx X.prog X.w X.K X.mg X.base g k ps sp) (hr : Room j X.A) (hj : k ≤ j) (hg : Gl X g) (ha : PAx X.nox (e :: es) t) (h1 : noStar e = true) (h2 : es.all noStar = true) (hdb : (g == ("__debug__" : Str)) = false)
    (hsw : swapsWith (.Call (.Name g p) (e :: es) [] pos) none epos.line X.env = pure false) (hc : Gl X cn) (hcm : X.mg cn = some (.ref CC)) (hcd : (cn == ("__debug__" : Str)) = false) (hx : PySem.W.exmOne X.K (.ref C) (.ref CC) = some true)
    (hst : X.stack = X.env :: X.outer) (hfr : X.env.frame = some X.env.locals) (hN : X.N.Nodup) (hi : X.N[i]? = some n) (hn : X.env.scope.names.lookup n = some .local)
    (hsu : ∀ (a : Addr) (oe : Obj), oe.cls = .ref C → PSs (X.suite a oe) (b₀ :: suite) (ts a)) :
    PS X (.Try [.Expr (.Call (.Name g p) (e :: es) [] pos) epos] [.ExceptHandler (some (.Name cn cp)) (some n) (b₀ :: suite) hpos] [] [] tpos) (tTryAs t sp C i ts) := by
  intro pins s σ H D I h
  obtain ⟨f, fd, hm, hk, hb, F⟩ := D0.ex
  refine wpAny_Try_except (wpAny_execs_cons (wpAny_Expr_any ?_ I.quiet hsw))
  refine wpAny_Call_Name_kw (ld_glob I hg hm ?_ hdb)
  refine PySem.W.callWith_K (h₀ := X.base) I.ok.mod.kin hk ?_ (star_cons h1 es _) (star_any h2 pos _)
  refine wpAny_mono (ha.h pos pins s σ H _ (I.wish _) h) (fun us s1 ⟨vs, H1, I1, r, q⟩ => ⟨I1.kIn, ?_⟩) fun _ _ z => False.elim z
  have J := I1.unwish
  have r2 : Vals (vs ++ []) (us ++ []) := r.append .nil
  have hl : (us ++ []).length = ps.length := by rw [← r2.length]; exact F.len _ _ _ _ q
  refine wpAny_call (codeAny_mono (F.run X.A X.stack s1 H1 ⟨us, []⟩ (us ++ []) (vs ++ []) _ _ (hr.mono hj) J.env0 (hb s1 us J.kIn hl) r2 q) fun r s' hq => ?_)
  cases r with
  | ok fl =>
    cases fl with
    | ret u =>
      obtain ⟨v, H2, J2, _, q2⟩ := J.after hq
      exact wpAny_execs_nil (wpAny_execs_nil ⟨σ, H2, J2, q2⟩)
    | next => exact False.elim hq
    | brk => exact False.elim hq
    | cont => exact False.elim hq
  | error x =>
    dsimp only [CR] at hq
    obtain ⟨a, cls, H2, rfl, FL, rfl, q2⟩ := hq
    refine landed hst hfr J FL fun B a0 h' fl2 kk => ?_
    obtain ⟨oe, hcl, J2, JS⟩ := kk h' fl2 (.refl _)
    refine wpAny_handleBy_cons (codeAny_handlers_test ?_) (by intro q; cases q)
    refine ld_glob (X := X.suite a oe) JS hc hcm ?_ hcd
    obtain ⟨ob, he, hcl2⟩ := fl2.there
    refine (PySem.W.exm_one (K := X.K) JS.kIn (cls_looks he hcl2) hx).here ?_
    refine codeAny_handlers_suite_as ?_
    refine lands_againW fl2 fun h3 fl3 up3 => ?_
    obtain ⟨oe3, hcl3, J3, JS3⟩ := kk h3 fl3 up3
    refine store_ok (X := X.suite a oe3) (i := i) (v := .ref a) JS3 hN hi (.inl hn) rfl (fun s4 JS4 => ?_) (.inr hn)
    refine wpAny_mono (hsu a oe3 hcl3 pins _ _ H2 _ JS4 (q2 a)) (fun fl s5 h5 => ?_) fun _ _ z => False.elim z
    cases fl with
    | next =>
      obtain ⟨σ', H', I', q'⟩ := h5
      exact unbind_ok (I'.unsuite I.ok.hd) hN hi hn fun s6 J6 => ⟨_, H', J6, q'⟩
    | brk => obtain ⟨σ', H', I', q'⟩ := h5; exact False.elim q'
    | cont => obtain ⟨σ', H', I', q'⟩ := h5; exact False.elim q'
    | ret u => obtain ⟨v, σ', H', I', r', q'⟩ := h5; exact False.elim q'
/-! ### isinstance(e, C), e the exception of the clause, C its very class -/
theorem same_ans {x t : Value} {H : Heap → Prop} (ty : ∀ (M : Model) (h : Heap), H h → PySem.W.Looks M h (typeOf x) t) : PySem.Answers (fun s => H s.heap) x t true := by
  intro dep tk prog w A R s hs
  obtain ⟨h0, g, d, tt, os⟩ := s
  obtain ⟨p, hq⟩ := hs
  have LT := ty (model prog w) h0 p
  unfold Builtin.«isinstance.nested»
  refine wpAny_bind (LT.here ?_)
  rw [if_pos (beq_self_eq_true t)]
  first
    | exact wpAny_bind (wpAny_rule (hq tt))
    | exact wpAny_bind (wpAny_rule (wpAny_pure (hq tt)))
def rIsx (a C : Addr) : List V → Hp → VK → Prop := fun xs H Q => xs = [.ref a, .ref C] ∧ Q (.bl true) H
theorem call_isx {X : Cx} {a C : Addr} {oe : Obj} (hcl : oe.cls = .ref C) : CallR (X.suite a oe) (.builtin "isinstance") (rIsx a C) := by
  intro pins s σ H xs us Q I r h
  obtain ⟨rfl, q⟩ := h
  obtain ⟨u, v, rfl, ru, rv⟩ := r.two
  cases (show u = Value.ref a from ru)
  cases (show v = Value.ref C from rv)
  have he : s.heap.get? a = some oe := (I.pin (a, oe) (List.mem_append_left _ List.mem_cons_self)).1
  exact call_isinstance (S := fun _ R s => (s.heap.get? a = some oe) ∧ ∀ tk, R (.ok (.ret (.bool true))) { s with toks := tk })
    (fun prog w A R s hs => isinstance_outer (same_ans (x := .ref a) (t := .ref C) (H := fun h => h.get? a = some oe) (fun M h p => cls_looks p hcl) 0 _ prog w A R s hs) (fun z => nomatch z)) ⟨he, fun tk => ⟨.bl true, H, I.tok _, rfl, q⟩⟩
theorem pe_isx {X : Cx} {a C : Addr} {oe : Obj} {y : Str} {p p2 pos : Pos} {e : Expr} {te : TE} (hcl : oe.cls = .ref C) (hI : X.mg "isinstance" = none) (hm : X.mg y = some (.ref C)) (gI : Gl X "isinstance") (gy : Gl X y) (ha : PE (X.suite a oe) e te) (h1 : noStar e = true)
    (hdb : (y == ("__debug__" : Str)) = false) : PE (X.suite a oe) (.Call (.Name "isinstance" p) [e, .Name y p2] [] pos) (tCB (rIsx a C) (tCons te (tCons (tC (.ref C)) tNil))) :=
  pe_cB (X := X.suite a oe) (p := p) (pos := pos) (call_isx hcl) gI hI PyProof.Rows.boot_isinstance (pa_c ha (pa_c (pe_glob (X := X.suite a oe) (v := .ref C) (pos := p2) gy hm rfl hdb) pa_0 rfl) h1) h1 rfl (by decide) (by decide)
end L2

set_option linter.all false
namespace Fd
/-! ### the day with the numbers themselves, and the day with marks; plain lists, no program -/
inductive Deed where
  | tell (st : Int) | come | miss | twice | answer | comeB | missB | twiceB
  deriving DecidableEq
/-- the first number from c on that is not among the early ones -/
def adv (early : List Int) (c : Int) : Int :=
  if h : c ∈ early then adv early (c + 1) else c
termination_by (early.filter fun y => decide (c ≤ y)).length
decreasing_by
  have sub : ∀ l : List Int, (l.filter fun y => decide (c + 1 ≤ y)).length ≤ (l.filter fun y => decide (c ≤ y)).length := by
    intro l
    induction l with
    | nil => exact Nat.le_refl _
    | cons a r ih =>
      simp only [List.filter_cons]
      by_cases h1 : c + 1 ≤ a
      · have h2 : c ≤ a := by omega
        simp [h1, h2, ih]
      · by_cases h2 : c ≤ a
        · simp [h1, h2]; omega
        · simp [h1, h2, ih]
  have strict : ∀ l : List Int, c ∈ l → (l.filter fun y => decide (c + 1 ≤ y)).length < (l.filter fun y => decide (c ≤ y)).length := by
    intro l
    induction l with
    | nil => intro h; cases h
    | cons a r ih =>
      intro h
      simp only [List.filter_cons]
      rcases List.mem_cons.mp h with e | e
      · subst e
        have h1 : ¬ c + 1 ≤ c := by omega
        have h2 := sub r
        simp [h1]; omega
      · have h2 := ih e
        by_cases h1 : c + 1 ≤ a
        · have h3 : c ≤ a := by omega
          simp [h1, h3]; omega
        · by_cases h3 : c ≤ a
          · simp [h1, h3]; omega
          · simp [h1, h3]; omega
  exact strict early h
theorem adv_in {early : List Int} {c : Int} (h : c ∈ early) : adv early c = adv early (c + 1) := by
  rw [adv]; simp [h]
theorem adv_out {early : List Int} {c : Int} (h : c ∉ early) : adv early c = c := by
  rw [adv]; simp [h]
/-- the measure of the walk -/
def above (early : List Int) (c : Int) : Nat := (early.filter fun y => decide (c ≤ y)).length
theorem above_le (early : List Int) (c : Int) : above early (c + 1) ≤ above early c := by
  unfold above
  induction early with
  | nil => exact Nat.le_refl _
  | cons a r ih =>
    simp only [List.filter_cons]
    by_cases h1 : c + 1 ≤ a
    · have h2 : c ≤ a := by omega
      simp [h1, h2, ih]
    · by_cases h2 : c ≤ a
      · simp [h1, h2]; omega
      · simp [h1, h2, ih]
theorem above_lt {early : List Int} {c : Int} (h : c ∈ early) : above early (c + 1) < above early c := by
  induction early with
  | nil => cases h
  | cons a r ih =>
    have s := above_le r c
    unfold above at *
    simp only [List.filter_cons]
    rcases List.mem_cons.mp h with e | e
    · subst e
      have h1 : ¬ c + 1 ≤ c := by omega
      simp [h1]; omega
    · have h2 := ih e
      by_cases h1 : c + 1 ≤ a
      · have h3 : c ≤ a := by omega
        simp [h1, h3]; omega
      · by_cases h3 : c ≤ a
        · simp [h1, h3]; omega
        · simp [h1, h3]; omega
/-- what adv gives -/
theorem adv_spec (early : List Int) : ∀ (n : Nat) (c : Int), above early c ≤ n → c ≤ adv early c ∧ adv early c ∉ early ∧ ∀ k, c ≤ k → k < adv early c → k ∈ early := by
  intro n
  induction n with
  | zero =>
    intro c h
    have hc : c ∉ early := fun m => by have := above_lt m; omega
    rw [adv_out hc]
    exact ⟨Int.le_refl _, hc, fun k h1 h2 => by omega⟩
  | succ n ih =>
    intro c h
    by_cases hc : c ∈ early
    · have q := above_lt hc
      have i := ih (c + 1) (by omega)
      rw [adv_in hc]
      refine ⟨by omega, i.2.1, fun k h1 h2 => ?_⟩
      by_cases e : k = c
      · rw [e]; exact hc
      · exact i.2.2 k (by omega) h2
    · rw [adv_out hc]
      exact ⟨Int.le_refl _, hc, fun k h1 h2 => by omega⟩
theorem le_adv (early : List Int) (c : Int) : c ≤ adv early c := (adv_spec early _ c (Nat.le_refl _)).1
theorem adv_not (early : List Int) (c : Int) : adv early c ∉ early := (adv_spec early _ c (Nat.le_refl _)).2.1
theorem adv_mem {early : List Int} {c k : Int} (h1 : c ≤ k) (h2 : k < adv early c) : k ∈ early := (adv_spec early _ c (Nat.le_refl _)).2.2 k h1 h2
theorem adv_unique {early : List Int} {c d : Int} (h : c ≤ d) (hn : d ∉ early) (hm : ∀ k, c ≤ k → k < d → k ∈ early) : adv early c = d := by
  have a := le_adv early c
  have b := adv_not early c
  rcases Int.lt_trichotomy (adv early c) d with l | e | l
  · exact absurd (hm _ a l) b
  · exact e
  · exact absurd (adv_mem h l) hn
/-! ### the day with numbers -/
structure N where
  first : Int
  came : Int
  early : List Int
  there : List Int
  back : List Int
def N.start : N := ⟨0, 0, [], [], []⟩
/-- a deed: done or not, and the state behind it; n notes, the width w -/
def stepN (n w : Int) (s : N) : Deed → Bool × N
  | .tell st => if 0 ≤ st ∧ st < w ∧ s.first + st < n then (true, { s with there := s.there ++ [s.first + st] }) else (false, s)
  | .answer => (true, { s with back := s.back ++ [s.came] })
  | .twice => match s.there with
    | [] => (false, s)
    | x :: r => (true, { s with there := x :: x :: r })
  | .twiceB => match s.back with
    | [] => (false, s)
    | x :: r => (true, { s with back := x :: x :: r })
  | .miss => match s.there with
    | [] => (false, s)
    | _ :: r => (true, { s with there := r })
  | .missB => match s.back with
    | [] => (false, s)
    | _ :: r => (true, { s with back := r })
  | .come => match s.there with
    | [] => (false, s)
    | x :: r => (true, { s with there := r, early := s.early ++ [x], came := adv (s.early ++ [x]) s.came })
  | .comeB => match s.back with
    | [] => (false, s)
    | x :: r => (true, { s with back := r, first := if x > s.first then x else s.first })
/-- what holds at every time -/
structure Good (n w : Int) (s : N) : Prop where
  w1 : 1 ≤ w
  n0 : 0 ≤ n
  f0 : 0 ≤ s.first
  fc : s.first ≤ s.came
  down : ∀ k, 0 ≤ k → k < s.came → k ∈ s.early
  out : s.came ∉ s.early
  ea : ∀ y ∈ s.early, 0 ≤ y ∧ y < n ∧ y < s.first + w
  th : ∀ x ∈ s.there, 0 ≤ x ∧ x < n ∧ x < s.first + w
  et : ∀ y ∈ s.early, ∀ x ∈ s.there, y < x + w
  tt : s.there.Pairwise fun x y => x < y + w
  ba : ∀ a ∈ s.back, s.first ≤ a ∧ a ≤ s.came
  bb : s.back.Pairwise fun x y => x ≤ y
theorem Good.start {n w : Int} (hw : 1 ≤ w) (hn : 0 ≤ n) : Good n w N.start :=
  ⟨hw, hn, Int.le_refl _, Int.le_refl _, fun k h1 h2 => by simp only [N.start] at h2; omega, by simp [N.start], by simp [N.start], by simp [N.start], by simp [N.start], by simp [N.start], by simp [N.start], by simp [N.start]⟩
theorem Good.cn {n w : Int} {s : N} (g : Good n w s) : s.came ≤ n := by
  by_cases h : s.came ≤ 0
  · have := g.n0; omega
  · have := g.ea _ (g.down (s.came - 1) (by omega) (by omega)); omega
theorem Good.cw {n w : Int} {s : N} (g : Good n w s) : s.came ≤ s.first + w := by
  by_cases h : s.came ≤ 0
  · have := g.f0; have := g.w1; omega
  · have := g.ea _ (g.down (s.came - 1) (by omega) (by omega)); omega
/-- a message on the line: its number lies within the width of the next one -/
theorem Good.near {n w : Int} {s : N} (g : Good n w s) {x : Int} (h : x ∈ s.there) : s.came - w ≤ x ∧ x < s.came + w := by
  have a := g.th x h
  have b := g.fc
  refine ⟨?_, by omega⟩
  by_cases h0 : s.came ≤ 0
  · have := g.w1; omega
  · have := g.et _ (g.down (s.came - 1) (by omega) (by omega)) x h; omega
theorem Good.step {n w : Int} {s : N} (g : Good n w s) (d : Deed) : Good n w (stepN n w s d).2 := by
  obtain ⟨f, c, ea, th, ba⟩ := s
  cases d with
  | tell st =>
    simp only [stepN]
    split
    · rename_i h
      have q := g
      have f0 := q.f0
      simp only at f0
      refine ⟨q.w1, q.n0, q.f0, q.fc, q.down, q.out, q.ea, ?_, ?_, ?_, q.ba, q.bb⟩
      · intro x hx
        rcases List.mem_append.mp hx with e | e
        · exact q.th x e
        · rw [List.mem_singleton.mp e]
          simp only at h ⊢
          omega
      · intro y hy x hx
        rcases List.mem_append.mp hx with e | e
        · exact q.et y hy x e
        · rw [List.mem_singleton.mp e]
          have := q.ea y hy
          simp only at this h ⊢
          omega
      · refine List.pairwise_append.mpr ⟨q.tt, by simp, fun x hx y hy => ?_⟩
        rw [List.mem_singleton.mp hy]
        have := q.th x hx
        simp only at this h ⊢
        omega
    · exact g
  | answer =>
    simp only [stepN]
    refine ⟨g.w1, g.n0, g.f0, g.fc, g.down, g.out, g.ea, g.th, g.et, g.tt, ?_, ?_⟩
    · intro a ha
      rcases List.mem_append.mp ha with e | e
      · exact g.ba a e
      · rw [List.mem_singleton.mp e]
        exact ⟨g.fc, Int.le_refl _⟩
    · refine List.pairwise_append.mpr ⟨g.bb, by simp, fun x hx y hy => ?_⟩
      rw [List.mem_singleton.mp hy]
      exact (g.ba x hx).2
  | twice =>
    cases th with
    | nil => exact g
    | cons x r =>
      simp only [stepN]
      refine ⟨g.w1, g.n0, g.f0, g.fc, g.down, g.out, g.ea, ?_, ?_, ?_, g.ba, g.bb⟩
      · intro y hy
        exact g.th y (by simpa using hy)
      · intro y hy z hz
        exact g.et y hy z (by simpa using hz)
      · refine List.pairwise_cons.mpr ⟨fun y hy => ?_, g.tt⟩
        rcases List.mem_cons.mp hy with e | e
        · rw [e]; have := g.w1; omega
        · exact (List.pairwise_cons.mp g.tt).1 y e
  | twiceB =>
    cases ba with
    | nil => exact g
    | cons x r =>
      simp only [stepN]
      refine ⟨g.w1, g.n0, g.f0, g.fc, g.down, g.out, g.ea, g.th, g.et, g.tt, ?_, ?_⟩
      · intro y hy
        exact g.ba y (by simpa using hy)
      · refine List.pairwise_cons.mpr ⟨fun y hy => ?_, g.bb⟩
        rcases List.mem_cons.mp hy with e | e
        · rw [e]; exact Int.le_refl _
        · exact (List.pairwise_cons.mp g.bb).1 y e
  | miss =>
    cases th with
    | nil => exact g
    | cons x r =>
      simp only [stepN]
      exact ⟨g.w1, g.n0, g.f0, g.fc, g.down, g.out, g.ea, fun y hy => g.th y (List.mem_cons_of_mem _ hy), fun y hy z hz => g.et y hy z (List.mem_cons_of_mem _ hz), (List.pairwise_cons.mp g.tt).2, g.ba, g.bb⟩
  | missB =>
    cases ba with
    | nil => exact g
    | cons x r =>
      simp only [stepN]
      exact ⟨g.w1, g.n0, g.f0, g.fc, g.down, g.out, g.ea, g.th, g.et, g.tt, fun y hy => g.ba y (List.mem_cons_of_mem _ hy), (List.pairwise_cons.mp g.bb).2⟩
  | come =>
    cases th with
    | nil => exact g
    | cons x r =>
      simp only [stepN]
      have l := le_adv (ea ++ [x]) c
      have fc := g.fc
      simp only at fc
      refine ⟨g.w1, g.n0, g.f0, by simp only; omega, ?_, adv_not _ _, ?_, fun y hy => g.th y (List.mem_cons_of_mem _ hy), ?_, (List.pairwise_cons.mp g.tt).2, ?_, g.bb⟩
      · intro k h1 h2
        by_cases e : k < c
        · exact List.mem_append_left _ (g.down k h1 e)
        · exact adv_mem (by omega) h2
      · intro y hy
        rcases List.mem_append.mp hy with e | e
        · exact g.ea y e
        · rw [List.mem_singleton.mp e]
          exact g.th x (List.mem_cons_self ..)
      · intro y hy z hz
        rcases List.mem_append.mp hy with e | e
        · exact g.et y e z (List.mem_cons_of_mem _ hz)
        · rw [List.mem_singleton.mp e]
          exact (List.pairwise_cons.mp g.tt).1 z hz
      · intro a ha
        have := g.ba a ha
        simp only at this ⊢
        omega
  | comeB =>
    cases ba with
    | nil => exact g
    | cons x r =>
      have hx := g.ba x (List.mem_cons_self ..)
      simp only at hx
      have e : (if x > f then x else f) = x := by split <;> omega
      simp only [stepN, e]
      have f0 := g.f0
      simp only at f0
      refine ⟨g.w1, g.n0, by simp only; omega, hx.2, g.down, g.out, ?_, ?_, g.et, g.tt, ?_, (List.pairwise_cons.mp g.bb).2⟩
      · intro y hy
        have := g.ea y hy
        simp only at this ⊢
        omega
      · intro y hy
        have := g.th y hy
        simp only at this ⊢
        omega
      · intro a ha
        have h1 := (List.pairwise_cons.mp g.bb).1 a ha
        exact ⟨h1, (g.ba a (List.mem_cons_of_mem _ ha)).2⟩
/-! ### the day with marks -/
section
variable {α : Type}
/-- what stands in front is handed over -/
def handS : List α → List (Option α) → List α × List (Option α)
  | h, some x :: r => ((handS (h ++ [x]) r).1, (handS (h ++ [x]) r).2 ++ [none])
  | h, none :: r => (h, none :: r)
  | h, [] => (h, [])
theorem handS_none : ∀ (r : List (Option α)) (h : List α), handS h (r ++ [none]) = ((handS h r).1, (handS h r).2 ++ [none])
  | [], h => rfl
  | none :: r, h => rfl
  | some x :: r, h => by
    show ((handS (h ++ [x]) (r ++ [none])).1, (handS (h ++ [x]) (r ++ [none])).2 ++ [none]) = _
    rw [handS_none r]
    rfl
/-- one turn: the foremost is handed over, the others move on, the last place is empty -/
theorem handS_turn (x : α) (r : List (Option α)) (h : List α) : handS h (some x :: r) = handS (h ++ [x]) (r ++ [none]) := by
  rw [handS_none]
  rfl
theorem handS_len : ∀ (r : List (Option α)) (h : List α), (handS h r).2.length = r.length
  | [], h => rfl
  | none :: r, h => rfl
  | some x :: r, h => by
    show ((handS (h ++ [x]) r).2 ++ [none]).length = _
    rw [List.length_append, handS_len r]
    rfl
/-- j notes in front, then none: they are handed over -/
theorem handS_run : ∀ (j : Nat) (h : List α) (sh : List (Option α)) (g : List α), g.length = j → sh.take j = g.map some → (sh[j]? = none ∨ sh[j]? = some none) →
    handS h sh = (h ++ g, sh.drop j ++ List.replicate j none)
  | 0, h, sh, g, lg, ht, hn => by
    have e : g = [] := List.length_eq_zero_iff.mp lg
    subst e
    cases sh with
    | nil => simp [handS]
    | cons a r =>
      have : a = none := by simpa using hn
      subst this
      simp [handS]
  | j + 1, h, sh, g, lg, ht, hn => by
    cases g with
    | nil => simp at lg
    | cons x g =>
      cases sh with
      | nil => simp at ht
      | cons a r =>
        simp only [List.take_succ_cons, List.map_cons, List.cons.injEq] at ht
        obtain ⟨e1, e2⟩ := ht
        subst e1
        have i := handS_run j (h ++ [x]) r g (by simpa using lg) e2 (by simpa using hn)
        show ((handS (h ++ [x]) r).1, (handS (h ++ [x]) r).2 ++ [none]) = _
        rw [i]
        simp [List.replicate_succ']
def putS (sh : List (Option α)) (st : Int) (x : α) : List (Option α) := if st < (sh.length : Int) then sh.set st.toNat (some x) else sh
def laidS (h : List α) (sh : List (Option α)) (mark : Int) (x : α) : List α × List (Option α) :=
  handS h (putS sh ((mark - (h.length : Int)) % (2 * (sh.length : Int))) x)
def heardS (first mark w : Int) : Int := first + (mark - first) % (2 * w)
structure M (α : Type) where
  first : Int
  handed : List α
  shelf : List (Option α)
  there : List (Int × α)
  back : List Int
def M.start (α : Type) (w : Int) : M α := ⟨0, [], List.replicate w.toNat none, [], []⟩
def stepM (notes : List α) (w : Int) (s : M α) : Deed → Bool × M α
  | .tell st => if 0 ≤ st ∧ st < w ∧ s.first + st < (notes.length : Int) then
      (match notes[(s.first + st).toNat]? with
      | some x => (true, { s with there := s.there ++ [((s.first + st) % (2 * w), x)] })
      | none => (false, s)) else (false, s)
  | .answer => (true, { s with back := s.back ++ [(s.handed.length : Int) % (2 * w)] })
  | .twice => match s.there with
    | [] => (false, s)
    | x :: r => (true, { s with there := x :: x :: r })
  | .twiceB => match s.back with
    | [] => (false, s)
    | x :: r => (true, { s with back := x :: x :: r })
  | .miss => match s.there with
    | [] => (false, s)
    | _ :: r => (true, { s with there := r })
  | .missB => match s.back with
    | [] => (false, s)
    | _ :: r => (true, { s with back := r })
  | .come => match s.there with
    | [] => (false, s)
    | x :: r => (true, { s with there := r, handed := (laidS s.handed s.shelf x.1 x.2).1, shelf := (laidS s.handed s.shelf x.1 x.2).2 })
  | .comeB => match s.back with
    | [] => (false, s)
    | x :: r => (true, { s with back := r, first := heardS s.first x w })
/-- the two days side by side -/
structure Rel (notes : List α) (w : Int) (a : N) (b : M α) : Prop where
  first : b.first = a.first
  handed : b.handed = notes.take a.came.toNat
  slen : (b.shelf.length : Int) = w
  shelf : ∀ k : Nat, (k : Int) < w → b.shelf[k]? = some (if a.came + (k : Int) ∈ a.early then notes[(a.came + (k : Int)).toNat]? else none)
  there : b.there.map (fun p => (p.1, some p.2)) = a.there.map (fun x => (x % (2 * w), notes[x.toNat]?))
  back : b.back = a.back.map (· % (2 * w))
theorem Rel.start {notes : List α} {w : Int} (hw : 1 ≤ w) : Rel notes w N.start (M.start α w) := by
  refine ⟨rfl, by simp [N.start, M.start], by simp [M.start]; omega, fun k hk => ?_, rfl, rfl⟩
  have : k < w.toNat := by omega
  simp [M.start, N.start, this]
theorem Rel.hlen {notes : List α} {w : Int} {a : N} {b : M α} (r : Rel notes w a b) (g : Good notes.length w a) : (b.handed.length : Int) = a.came := by
  have c := g.cn
  have f := g.fc
  have f0 := g.f0
  rw [r.handed, List.length_take]
  omega
theorem mod_near {x c w : Int} (h1 : c - w ≤ x) (h2 : x < c + w) (w1 : 1 ≤ w) : (x % (2 * w) - c) % (2 * w) = if c ≤ x then x - c else x - c + 2 * w := by
  rw [Int.emod_sub_emod]
  split
  · rw [Int.emod_eq_of_lt (by omega) (by omega)]
  · have e := Int.add_emod_right (x - c) (2 * w)
    rw [← e, Int.emod_eq_of_lt (by omega) (by omega)]
theorem heard_is {a f w : Int} (h1 : f ≤ a) (h2 : a ≤ f + w) (w1 : 1 ≤ w) : heardS f (a % (2 * w)) w = a := by
  unfold heardS
  rw [Int.emod_sub_emod, Int.emod_eq_of_lt (by omega) (by omega)]
  omega
theorem map_cons_of {β γ : Type} {f : β → γ} {l : List β} {y : γ} {r : List γ} (h : l.map f = y :: r) : ∃ x t, l = x :: t ∧ f x = y ∧ t.map f = r := by
  cases l with
  | nil => cases h
  | cons x t =>
    simp only [List.map_cons, List.cons.injEq] at h
    exact ⟨x, t, rfl, h.1, h.2⟩
/-- a message that comes -/
theorem Rel.comes {notes : List α} {w : Int} {a : N} {b : M α} (r : Rel notes w a b) (g : Good notes.length w a) {x : Int} {t : List Int} (ht : a.there = x :: t) {y : α} (hy : notes[x.toNat]? = some y) :
    let c := adv (a.early ++ [x]) a.came
    let q := laidS b.handed b.shelf (x % (2 * w)) y
    q.1 = notes.take c.toNat ∧ (q.2.length : Int) = w ∧ ∀ k : Nat, (k : Int) < w → q.2[k]? = some (if c + (k : Int) ∈ a.early ++ [x] then notes[(c + (k : Int)).toNat]? else none) := by
  intro c q
  have hx : x ∈ a.there := by rw [ht]; exact List.mem_cons_self ..
  have nr := g.near hx
  have w1 := g.w1
  have hl := r.hlen g
  have g' := g.step .come
  simp only [stepN, ht] at g'
  have gc := g'.cn
  have gw := g'.cw
  have fc := g.fc
  have f0 := g.f0
  have lc : a.came ≤ c := le_adv _ _
  simp only at gc gw
  -- the shelf with the note laid
  have es : (x % (2 * w) - (b.handed.length : Int)) % (2 * (b.shelf.length : Int)) = if a.came ≤ x then x - a.came else x - a.came + 2 * w := by
    rw [hl, r.slen]; exact mod_near nr.1 nr.2 w1
  have sl := r.slen
  -- pointwise
  have pw : ∀ k : Nat, (k : Int) < w → (putS b.shelf ((x % (2 * w) - (b.handed.length : Int)) % (2 * (b.shelf.length : Int))) y)[k]? = some (if a.came + (k : Int) ∈ a.early ++ [x] then notes[(a.came + (k : Int)).toNat]? else none) := by
    intro k hk
    have old := r.shelf k hk
    rw [es]
    unfold putS
    by_cases h : a.came ≤ x
    · rw [if_pos h, sl, if_pos (by omega), List.getElem?_set]
      by_cases e : (x - a.came).toNat = k
      · have e2 : a.came + (k : Int) = x := by omega
        rw [if_pos e, if_pos (by omega), e2]
        simp [hy]
      · rw [if_neg e, old]
        have e2 : ¬ a.came + (k : Int) = x := by omega
        simp [e2]
    · rw [if_neg h, sl, if_neg (by omega), old]
      have e2 : ¬ a.came + (k : Int) = x := by omega
      simp [e2]
  have pl : (putS b.shelf ((x % (2 * w) - (b.handed.length : Int)) % (2 * (b.shelf.length : Int))) y).length = b.shelf.length := by
    unfold putS; split <;> simp
  have q_eq : q = handS b.handed (putS b.shelf ((x % (2 * w) - (b.handed.length : Int)) % (2 * (b.shelf.length : Int))) y) := rfl
  generalize putS b.shelf ((x % (2 * w) - (b.handed.length : Int)) % (2 * (b.shelf.length : Int))) y = sh at pw pl q_eq
  -- as many as are handed over
  obtain ⟨j, hj⟩ : ∃ j : Nat, c = a.came + (j : Int) := ⟨(c - a.came).toNat, by omega⟩
  have jw : (j : Int) ≤ w := by omega
  have run := handS_run j b.handed sh ((notes.drop a.came.toNat).take j) (by rw [List.length_take, List.length_drop]; omega) (by
      apply List.ext_getElem?
      intro i
      rw [List.getElem?_take, List.getElem?_map, List.getElem?_take]
      by_cases hi : i < j
      · rw [if_pos hi, if_pos hi, pw i (by omega), if_pos (show a.came + (i : Int) ∈ a.early ++ [x] from adv_mem (c := a.came) (by omega) (show a.came + (i : Int) < c by omega)), List.getElem?_drop]
        have e : (a.came + (i : Int)).toNat = a.came.toNat + i := by omega
        rw [e, List.getElem?_eq_getElem (by omega)]
        rfl
      · rw [if_neg hi, if_neg hi]
        rfl) (by
      by_cases e : (j : Int) < w
      · right
        rw [pw j e, ← hj, if_neg (adv_not _ _)]
      · left
        rw [List.getElem?_eq_none_iff, pl]
        omega)
  rw [q_eq, run]
  refine ⟨?_, ?_, ?_⟩
  · have e : c.toNat = a.came.toNat + j := by omega
    rw [r.handed, e, List.take_add]
  · simp only [List.length_append, List.length_drop, List.length_replicate, pl]
    omega
  · intro k hk
    simp only
    rw [List.getElem?_append]
    by_cases e : k < (sh.drop j).length
    · rw [if_pos e, List.getElem?_drop]
      rw [List.length_drop, pl] at e
      rw [pw (j + k) (by omega)]
      have e2 : a.came + ((j + k : Nat) : Int) = c + (k : Int) := by omega
      rw [e2]
    · rw [if_neg e]
      rw [List.length_drop, pl] at e
      have e2 : ¬ c + (k : Int) ∈ a.early ++ [x] := fun m => by
        have := (g'.ea _ m).2.2
        simp only at this
        omega
      rw [if_neg e2, List.length_drop, pl, List.getElem?_replicate, if_pos (by omega)]
theorem Rel.step {notes : List α} {w : Int} {a : N} {b : M α} (r : Rel notes w a b) (g : Good notes.length w a) (d : Deed) :
    (stepM notes w b d).1 = (stepN notes.length w a d).1 ∧ Rel notes w (stepN notes.length w a d).2 (stepM notes w b d).2 := by
  have w1 := g.w1
  have f0 := g.f0
  obtain ⟨f, c, ea, th, ba⟩ := a
  obtain ⟨bf, bh, bs, bt, bb⟩ := b
  have e1 : bf = f := r.first
  subst e1
  have rt := r.there
  have rb := r.back
  simp only at rt rb f0
  cases d with
  | tell st =>
    simp only [stepN, stepM]
    split
    · rename_i h
      have hl : (bf + st).toNat < notes.length := by omega
      rw [List.getElem?_eq_getElem hl]
      refine ⟨rfl, ⟨r.first, r.handed, r.slen, r.shelf, ?_, r.back⟩⟩
      simp only [List.map_append, rt, List.map_cons, List.map_nil, List.getElem?_eq_getElem hl]
    · exact ⟨rfl, r⟩
  | answer =>
    simp only [stepN, stepM]
    refine ⟨by simp, ⟨r.first, r.handed, r.slen, r.shelf, r.there, ?_⟩⟩
    have hl := r.hlen g
    simp only at hl
    simp only [hl, List.map_append, rb, List.map_cons, List.map_nil]
  | twice =>
    cases th with
    | nil =>
      have : bt = [] := by simpa using rt
      subst this
      exact ⟨rfl, r⟩
    | cons x t =>
      obtain ⟨y, u, rfl, hy, hu⟩ := map_cons_of (by simpa using rt)
      simp only [stepN, stepM]
      refine ⟨by simp, ⟨r.first, r.handed, r.slen, r.shelf, ?_, r.back⟩⟩
      simp only [List.map_cons, hu]
      rw [hy]
  | twiceB =>
    cases ba with
    | nil =>
      have : bb = [] := by simpa using rb
      subst this
      exact ⟨rfl, r⟩
    | cons x t =>
      subst rb
      simp only [stepN, stepM, List.map_cons]
      exact ⟨by simp, ⟨r.first, r.handed, r.slen, r.shelf, r.there, by simp⟩⟩
  | miss =>
    cases th with
    | nil =>
      have : bt = [] := by simpa using rt
      subst this
      exact ⟨rfl, r⟩
    | cons x t =>
      obtain ⟨y, u, rfl, hy, hu⟩ := map_cons_of (by simpa using rt)
      simp only [stepN, stepM]
      exact ⟨by simp, ⟨r.first, r.handed, r.slen, r.shelf, hu, r.back⟩⟩
  | missB =>
    cases ba with
    | nil =>
      have : bb = [] := by simpa using rb
      subst this
      exact ⟨rfl, r⟩
    | cons x t =>
      subst rb
      simp only [stepN, stepM, List.map_cons]
      exact ⟨by simp, ⟨r.first, r.handed, r.slen, r.shelf, r.there, by simp⟩⟩
  | come =>
    cases th with
    | nil =>
      have : bt = [] := by simpa using rt
      subst this
      exact ⟨rfl, r⟩
    | cons x t =>
      obtain ⟨y, u, rfl, hy, hu⟩ := map_cons_of (by simpa using rt)
      simp only [Prod.mk.injEq] at hy
      have cm := r.comes g (x := x) (t := t) rfl (y := y.2) hy.2.symm
      simp only [← hy.1] at cm
      simp only [stepN, stepM]
      exact ⟨by simp, ⟨r.first, cm.1, cm.2.1, cm.2.2, hu, r.back⟩⟩
  | comeB =>
    cases ba with
    | nil =>
      have : bb = [] := by simpa using rb
      subst this
      exact ⟨rfl, r⟩
    | cons x t =>
      have hx := g.ba x (List.mem_cons_self ..)
      have cw := g.cw
      simp only at hx cw
      subst rb
      have e : (if x > bf then x else bf) = x := by split <;> omega
      simp only [stepN, stepM, List.map_cons, e, heard_is hx.1 (by omega) w1]
      exact ⟨by simp, ⟨rfl, r.handed, r.slen, r.shelf, r.there, by simp⟩⟩
end
/-! ### a whole day -/
def endN (n w : Int) (s : N) (ds : List Deed) : N := ds.foldl (fun s d => (stepN n w s d).2) s
def endM {α : Type} (notes : List α) (w : Int) (s : M α) (ds : List Deed) : M α := ds.foldl (fun s d => (stepM notes w s d).2) s
theorem Good.run {n w : Int} : ∀ {ds : List Deed} {s : N}, Good n w s → Good n w (endN n w s ds)
  | [], _, g => g
  | d :: ds, s, g => Good.run (ds := ds) (g.step d)
theorem Rel.run {α : Type} {notes : List α} {w : Int} : ∀ {ds : List Deed} {a : N} {b : M α}, Rel notes w a b → Good notes.length w a → Rel notes w (endN notes.length w a ds) (endM notes w b ds)
  | [], _, _, r, _ => r
  | d :: ds, _, _, r, g => Rel.run (ds := ds) (r.step g d).2 (g.step d)
theorem endN_append (n w : Int) (s : N) (xs ys : List Deed) : endN n w s (xs ++ ys) = endN n w (endN n w s xs) ys := List.foldl_append ..
/-- the handed over are the first ones -/
theorem handed_first {α : Type} {notes : List α} {w : Int} (hw : 1 ≤ w) (ds : List Deed) : (endM notes w (M.start α w) ds).handed = notes.take (endN notes.length w N.start ds).came.toNat :=
  (Rel.run (Rel.start hw) (Good.start hw (Int.natCast_nonneg _))).handed
/-! ### in the end all come over -/
theorem there_le (n w : Int) : ∀ (ds : List Deed) (s : N), (endN n w s ds).there.length ≤ s.there.length + ds.length ∧ (endN n w s ds).back.length ≤ s.back.length + ds.length
  | [], s => ⟨Nat.le_refl _, Nat.le_refl _⟩
  | d :: ds, s => by
    have i := there_le n w ds (stepN n w s d).2
    have j : (stepN n w s d).2.there.length ≤ s.there.length + 1 ∧ (stepN n w s d).2.back.length ≤ s.back.length + 1 := by
      obtain ⟨f, c, ea, th, ba⟩ := s
      cases d <;> simp only [stepN]
      · split <;> simp
      · cases th <;> simp <;> omega
      · cases th <;> simp <;> omega
      · cases th <;> simp
      · simp
      · cases ba <;> simp <;> omega
      · cases ba <;> simp <;> omega
      · cases ba <;> simp
    show (endN n w (stepN n w s d).2 ds).there.length ≤ _ ∧ (endN n w (stepN n w s d).2 ds).back.length ≤ _
    simp only [List.length_cons]
    omega
theorem comes_all (n w : Int) : ∀ (m : Nat) (s : N), s.there.length ≤ m → ∃ c, endN n w s (List.replicate m .come) = { s with there := [], early := s.early ++ s.there, came := c }
  | 0, s, h => by
    obtain ⟨f, c, ea, th, ba⟩ := s
    have : th = [] := by simpa using h
    subst this
    exact ⟨c, by simp [endN]⟩
  | m + 1, s, h => by
    obtain ⟨f, c, ea, th, ba⟩ := s
    rw [List.replicate_succ]
    cases th with
    | nil =>
      obtain ⟨c', e⟩ := comes_all n w m ⟨f, c, ea, [], ba⟩ (by simp)
      exact ⟨c', e⟩
    | cons x r =>
      obtain ⟨c', e⟩ := comes_all n w m ⟨f, adv (ea ++ [x]) c, ea ++ [x], r, ba⟩ (by simpa using h)
      refine ⟨c', ?_⟩
      show endN n w ⟨f, adv (ea ++ [x]) c, ea ++ [x], r, ba⟩ _ = _
      rw [e]
      simp
theorem backs_none (n w : Int) : ∀ (m : Nat) (s : N), s.back = [] → endN n w s (List.replicate m .comeB) = s
  | 0, s, h => rfl
  | m + 1, s, h => by
    obtain ⟨f, c, ea, th, ba⟩ := s
    subst h
    rw [List.replicate_succ]
    exact backs_none n w m ⟨f, c, ea, th, []⟩ rfl
theorem backs_all {n w : Int} : ∀ (m : Nat) (s : N) (l : List Int), Good n w s → s.back = l ++ [s.came] → l.length < m → endN n w s (List.replicate m .comeB) = { s with back := [], first := s.came }
  | 0, s, l, g, h, hm => by omega
  | m + 1, s, l, g, h, hm => by
    have g1 := g.step .comeB
    obtain ⟨f, c, ea, th, ba⟩ := s
    simp only at h
    subst h
    rw [List.replicate_succ]
    cases l with
    | nil =>
      have fc := g.fc
      simp only at fc
      have e : (if c > f then c else f) = c := by split <;> omega
      show endN n w ⟨if c > f then c else f, c, ea, th, []⟩ (List.replicate m .comeB) = _
      rw [e]
      exact backs_none n w m _ rfl
    | cons x l =>
      have := backs_all m ⟨if x > f then x else f, c, ea, th, l ++ [c]⟩ l g1 rfl (by simpa using hm)
      exact this
/-- the tells of a round -/
def tells (w : Nat) : List Deed := (List.range w).map fun (k : Nat) => Deed.tell (k : Int)
theorem tells_all (n w : Int) : ∀ (j : Nat) (s : N), 0 ≤ s.first → (j : Int) ≤ w → ∃ t, endN n w s (tells j) = { s with there := t } ∧ t.length ≤ s.there.length + j ∧ ∀ k : Nat, k < j → s.first + (k : Int) < n → s.first + (k : Int) ∈ t
  | 0, s, h, hj => ⟨s.there, rfl, Nat.le_refl _, fun k hk => by omega⟩
  | j + 1, s, h, hj => by
    obtain ⟨t, e, l, m⟩ := tells_all n w j s h (by omega)
    have sp : tells (j + 1) = tells j ++ [.tell (j : Int)] := by
      unfold tells
      rw [List.range_succ, List.map_append]
      rfl
    rw [sp, endN_append, e]
    show ∃ t', (stepN n w { s with there := t } (.tell (j : Int))).2 = _ ∧ _
    simp only [stepN]
    by_cases c : s.first + (j : Int) < n
    · rw [if_pos ⟨by omega, by omega, c⟩]
      refine ⟨t ++ [s.first + (j : Int)], rfl, by simp; omega, fun k hk hn => ?_⟩
      by_cases ek : k = j
      · rw [ek]; simp
      · exact List.mem_append_left _ (m k (by omega) hn)
    · rw [if_neg (by omega)]
      refine ⟨t, rfl, by omega, fun k hk hn => ?_⟩
      by_cases ek : k = j
      · rw [ek] at hn; omega
      · exact m k (by omega) hn
def round (w : Nat) : List Deed := tells w ++ (List.replicate w .come ++ [.answer, .comeB])
/-- nothing is on its way and all is heard of -/
structure Still (s : N) : Prop where
  th : s.there = []
  ba : s.back = []
  fc : s.first = s.came
theorem Still.round {n : Int} {w : Nat} {s : N} (g : Good n w s) (q : Still s) : Still (endN n w s (round w)) ∧ (n ≤ (endN n w s (round w)).came ∨ s.came + (w : Int) ≤ (endN n w s (round w)).came) := by
  have f0 := g.f0
  obtain ⟨t, e, l, m⟩ := tells_all n w w s f0 (Int.le_refl _)
  unfold Fd.round
  have gt : Good n w (endN n w s (tells w)) := g.run
  rw [endN_append]
  rw [e] at gt ⊢
  have tl : t.length ≤ w := by rw [q.th] at l; simpa using l
  obtain ⟨c, ec⟩ := comes_all n w w { s with there := t } tl
  have gc : Good n w (endN n w { s with there := t } (List.replicate w .come)) := gt.run
  rw [endN_append]
  rw [ec] at gc ⊢
  have hf : s.first ≤ c := gc.fc
  obtain ⟨f, c0, ea, th, ba⟩ := s
  have hb : ba = [] := q.ba
  have hq : f = c0 := q.fc
  subst hb hq
  have e2 : endN n w ⟨f, c, ea ++ t, [], []⟩ [.answer, .comeB] = ⟨if c > f then c else f, c, ea ++ t, [], []⟩ := rfl
  simp only at hf
  have e3 : (if c > f then c else f) = c := by split <;> omega
  rw [e3] at e2
  simp only at *
  rw [e2]
  refine ⟨⟨rfl, rfl, rfl⟩, ?_⟩
  simp only
  by_cases h1 : n ≤ c
  · exact .inl h1
  by_cases h2 : f + (w : Int) ≤ c
  · exact .inr h2
  exfalso
  have := m (c - f).toNat (by omega) (by omega)
  have e4 : f + (((c - f).toNat : Nat) : Int) = c := by omega
  rw [e4] at this
  exact gc.out (List.mem_append_right _ this)
def rounds (w : Nat) : Nat → List Deed
  | 0 => []
  | k + 1 => rounds w k ++ round w
theorem Still.rounds {n : Int} {w : Nat} : ∀ (k : Nat) {s : N}, Good n w s → Still s → Still (endN n w s (rounds w k)) ∧ (n ≤ (endN n w s (rounds w k)).came ∨ s.came + (k : Int) * (w : Int) ≤ (endN n w s (rounds w k)).came)
  | 0, s, g, q => ⟨q, .inr (by simp [Fd.rounds, endN])⟩
  | k + 1, s, g, q => by
    obtain ⟨q1, a⟩ := Still.rounds k g q
    have g1 : Good n w (endN n w s (Fd.rounds w k)) := g.run
    obtain ⟨q2, b⟩ := q1.round g1
    have mono : (endN n w s (Fd.rounds w k)).came ≤ (endN n w (endN n w s (Fd.rounds w k)) (Fd.round w)).came ∨ n ≤ (endN n w (endN n w s (Fd.rounds w k)) (Fd.round w)).came := by
      rcases b with b | b
      · exact .inr b
      · exact .inl (by omega)
    unfold Fd.rounds
    rw [endN_append]
    refine ⟨q2, ?_⟩
    have e : ((k + 1 : Nat) : Int) * (w : Int) = (k : Int) * (w : Int) + (w : Int) := by
      rw [Int.natCast_succ, Int.add_mul, Int.one_mul]
    rw [e]
    rcases b with b | b
    · exact .inl b
    · rcases a with a | a
      · left; omega
      · right; omega
/-- the closing deeds: m deeds went ahead of them -/
def closing (m w k : Nat) : List Deed := (List.replicate m .come ++ ([.answer] ++ List.replicate (m + 1) .comeB)) ++ rounds w k
theorem all_over {n : Int} {w : Nat} (hw : 1 ≤ w) (hn : 0 ≤ n) (ds : List Deed) {k : Nat} (hk : n ≤ (k : Int) * (w : Int)) : (endN n w N.start (ds ++ closing ds.length w k)).came = n := by
  have g0 : Good n w N.start := Good.start (by omega) hn
  have g1 : Good n w (endN n w N.start ds) := g0.run
  have lt := there_le n w ds N.start
  have gE : Good n w (endN n w N.start (ds ++ closing ds.length w k)) := g0.run
  have up := gE.cn
  have key : ∀ (s : N) (m : Nat), Good n w s → s.there.length ≤ m → s.back.length ≤ m → n ≤ (endN n w s (closing m w k)).came := by
    intro s m g1 h1 h2
    unfold closing
    rw [endN_append, endN_append, endN_append]
    obtain ⟨c, ec⟩ := comes_all n w m s h1
    have g2 : Good n w (endN n w s (List.replicate m .come)) := g1.run
    rw [ec] at g2 ⊢
    have g3 : Good n w (endN n w { s with there := [], early := s.early ++ s.there, came := c } [.answer]) := g2.run
    have e3 : endN n w { s with there := [], early := s.early ++ s.there, came := c } [.answer] = { s with there := [], early := s.early ++ s.there, came := c, back := s.back ++ [c] } := rfl
    rw [e3] at g3 ⊢
    have e4 := backs_all (m + 1) _ s.back g3 rfl (by omega)
    have g4 : Good n w (endN n w { s with there := [], early := s.early ++ s.there, came := c, back := s.back ++ [c] } (List.replicate (m + 1) .comeB)) := g3.run
    rw [e4] at g4 ⊢
    have g5 := Still.rounds (n := n) (w := w) k g4 ⟨rfl, rfl, rfl⟩
    have f0 := g2.f0
    have fc := g2.fc
    simp only at f0 fc
    rcases g5.2 with h | h
    · exact h
    · simp only at h ⊢
      omega
  have := key (endN n w N.start ds) ds.length g1 (by simpa [N.start] using lt.1) (by simpa [N.start] using lt.2)
  rw [endN_append] at up ⊢
  omega
theorem early_le (n w : Int) : ∀ (ds : List Deed) (s : N), (endN n w s ds).early.length ≤ s.early.length + ds.length
  | [], s => Nat.le_refl _
  | d :: ds, s => by
    have i := early_le n w ds (stepN n w s d).2
    have j : (stepN n w s d).2.early.length ≤ s.early.length + 1 := by
      obtain ⟨f, c, ea, th, ba⟩ := s
      cases d <;> simp only [stepN]
      · split <;> simp
      · cases th <;> simp
      · cases th <;> simp
      · cases th <;> simp
      · simp
      · cases ba <;> simp
      · cases ba <;> simp
      · cases ba <;> simp
    show (endN n w (stepN n w s d).2 ds).early.length ≤ _
    simp only [List.length_cons]
    omega
end Fd


set_option Elab.async false
set_option linter.all false
set_option maxRecDepth 100000
set_option maxHeartbeats 4000000
namespace Fh
open PySem L2 Fd
/-! ### the text by places -/
def top (i : Nat) : Stmt := PySem.Challenge.pw_flaghill_k06_whole_as_by_numbers.main.body.getD i (.Pass ⟨0, 0, 0, 0⟩)
abbrev s_mark_of : Stmt := top 4
abbrev s_steps_on : Stmt := top 5
abbrev s_laid : Stmt := top 7
abbrev s_heard : Stmt := top 8
abbrev s_Line__init : Stmt := inClass (top 10) 0
abbrev s_Line_how_many : Stmt := inClass (top 10) 1
abbrev s_Line_is_empty : Stmt := inClass (top 10) 2
abbrev s_Line_give : Stmt := inClass (top 10) 3
abbrev s_Line_take_foremost : Stmt := inClass (top 10) 4
abbrev s_Line_double_foremost : Stmt := inClass (top 10) 5
abbrev s_lost_on : Stmt := top 11
abbrev s_doubled_on : Stmt := top 12
abbrev s_Day__init : Stmt := inClass (top 14) 0
abbrev s_begun : Stmt := top 15
abbrev s_tell : Stmt := top 16
abbrev s_come : Stmt := top 17
abbrev s_answer : Stmt := top 18
abbrev s_come_back : Stmt := top 19
abbrev s_done : Stmt := top 20
abbrev s_state : Stmt := top 21
abbrev s_states : Stmt := top 22
abbrev s_law_room : Stmt := top 24
abbrev s_law_whole : Stmt := top 25
abbrev s_law_at : Stmt := top 26
abbrev s_law_letters : Stmt := top 27
abbrev s_law_deeds : Stmt := top 28
abbrev s_law_plainly : Stmt := top 29
abbrev s_law_texts : Stmt := top 30
abbrev s_law_same : Stmt := top 31
abbrev s_law : Stmt := top 32
/-! ### what stands on the heap -/
/-- a deed's tuple -/
def dV : Deed → List V
  | .tell st => [.str "tell", .int st]
  | .come => [.str "come"]
  | .miss => [.str "miss"]
  | .twice => [.str "twice"]
  | .answer => [.str "answer"]
  | .comeB => [.str "come back"]
  | .missB => [.str "miss back"]
  | .twiceB => [.str "twice back"]
structure DeedsAt (H : Hp) (as : List Addr) (ds : List Deed) : Prop where
  len : as.length = ds.length
  has : ∀ (i : Nat) (d : Deed), ds[i]? = some d → ∃ a, as[i]? = some a ∧ H a = some (.tup (dV d))
theorem DeedsAt.same {H H' : Hp} {as : List Addr} {ds : List Deed} (h : DeedsAt H as ds) (s : Same H H') : DeedsAt H' as ds :=
  ⟨h.len, fun i d e => let ⟨a, h1, h2⟩ := h.has i d e; ⟨a, h1, s _ _ h2⟩⟩
theorem DeedsAt.get {H : Hp} {as : List Addr} {ds : List Deed} (h : DeedsAt H as ds) {i : Nat} {x : V} (e : (as.map V.ref)[i]? = some x) : ∃ a d, x = .ref a ∧ as[i]? = some a ∧ ds[i]? = some d ∧ H a = some (.tup (dV d)) := by
  rw [List.getElem?_map] at e
  cases q : as[i]? with
  | none => rw [q] at e; cases e
  | some a =>
    rw [q] at e
    have hi : i < ds.length := by rw [← h.len]; exact (List.getElem?_eq_some_iff.mp q).1
    obtain ⟨a', h1, h2⟩ := h.has i ds[i] (List.getElem?_eq_getElem hi)
    rw [q] at h1
    cases h1
    exact ⟨a, ds[i], (Option.some.inj e).symm, rfl, List.getElem?_eq_getElem hi, h2⟩
def at0 (ns : List Int) (k : Nat) : Int := ns.getD k 0
theorem small {n : Nat} (h : n ≤ 1000) : n ≤ sizeLine := Nat.le_of_lt (small1000 h)
/-! ### promises -/
def sp_at (K : PySem.W.Frag) : Sp := fun vs H Q _ => ∃ (a : Addr) (ns : List Int) (k : Nat), vs = [.ref a, .int k] ∧ SqL K H a (ns.map V.int) ∧ Q (.int (at0 ns k)) H
def sp_room (K : PySem.W.Frag) : Sp := fun vs H Q _ => ∃ (a : Addr) (ns : List Int) (m b : Int), vs = [.ref a, .int m, .int b] ∧ SqL K H a (ns.map V.int) ∧ ns.length ≤ 63 ∧ Q (.int m) H
def sp_whole : Sp := fun vs H Q _ => ∃ i : Int, vs = [.int i] ∧ Q (.bl true) H
def sp_texts : Sp := fun vs H Q _ => ∃ (a b : Addr) (xs : List Str), vs = [.ref a, .ref b] ∧ H a = some (.lst (xs.map V.str)) ∧ H b = some (.lst (xs.map V.str)) ∧ xs.length ≤ 1000 ∧ Q (.bl true) H
def sp_same : Sp := fun vs H Q _ => ∃ (a b : Addr) (as : List Addr) (ds : List Deed), vs = [.ref a, .ref b] ∧ H a = some (.lst (as.map V.ref)) ∧ H b = some (.lst (as.map V.ref)) ∧ DeedsAt H as ds ∧ as.length ≤ 1000 ∧ Q (.bl true) H
def sp_letters : Sp := fun vs H Q _ => ∃ m g : Int, vs = [.int m, .int g] ∧ 0 ≤ m ∧ m ≤ 200 ∧
  ∀ (p : Addr) (notes : List Str) (H' : Hp), H p = none → Same H H' → H' p = some (.lst (notes.map V.str)) → (notes.length : Int) = m → Q (.ref p) H'
def sp_deeds (K : PySem.W.Frag) : Sp := fun vs H Q _ => ∃ (c : Addr) (ns : List Int) (w : Int), vs = [.ref c, .int w] ∧ SqL K H c (ns.map V.int) ∧ 1 ≤ w ∧ w ≤ 100 ∧ ns.length ≤ 63 ∧
  ∀ (p : Addr) (as : List Addr) (ds : List Deed) (H' : Hp), H p = none → Same H H' → H' p = some (.lst (as.map V.ref)) → DeedsAt H' as ds → ds.length = ns.length → Q (.ref p) H'
section
variable {P : Program} {w : World} {K : PySem.W.Frag} {mg : Str → Option Value} {base : Heap} {f : Addr} {fd : FuncData}
/-! ### the small defs -/
theorem sc_law_at : FnScope ["_law_script", "_law_k"] ["_law_script", "_law_k"] (defScope s_law_at) := ⟨rfl, rfl, rfl, by decide +kernel, rfl, by decide +kernel, by decide +kernel⟩
theorem ok_at (B : Bt mg) (F : Fun K "_law_at" "_law_at" s_law_at f fd) : FnOk P w K mg base CX0 1 f fd ["_law_script", "_law_k"] (sp_at K) := by
  refine F.ok sc_law_at (fun vs H Q E h => ?_) (fun cdv A outer s H vs Q E hr h => ?_)
  · obtain ⟨a, ns, k, rfl, _⟩ := h
    rfl
  obtain ⟨a, ns, k, rfl, hS, q⟩ := h
  refine ⟨_, (@pss_cons _ _ _ _ _ (@ps_if _ _ _ _ _ _ _ _ (@pt_cmpR _ _ _ _ _ _ _ _ op_lt (pv 1) (@pe_cB _ _ _ _ _ _ _ _ _ call_len_seq (by rfl) B.len PySem.boot_len (@pa_c _ _ _ _ _ (pv 0) pa_0 (by rfl)) (by rfl) (by rfl) (by decide) (by decide)) (nomark _)) (@pss_one _ _ _ (@ps_ret _ _ _ _ (@pe_ix _ _ _ _ _ _ _ ix_list (pv 0) (pv 1) (fun _ _ => rfl)))) pss_nil)
    (@pss_one _ _ _ (@ps_ret _ _ _ _ pe_int))), ?_⟩
  have hl : (ns.map V.int).length = ns.length := List.length_map _
  refine ⟨_, rfl, _, rfl, a, _, rfl, .inl hS, _, _, rfl, rfl, _, rfl, ?_⟩
  refine ite2 (fun c => ?_) (fun c => ?_)
  · have c' : (k : Int) < (((ns.map V.int).length : Nat) : Int) := of_decide_eq_true c
    rw [hl] at c'
    have hk : k < ns.length := by omega
    have e : at0 ns k = ns[k] := by unfold at0; simp [hk]
    refine ⟨_, rfl, _, rfl, a, _, (k : Int), .int ns[k], rfl, rfl, hS, atI_nat (by rw [List.getElem?_map, List.getElem?_eq_getElem hk] <;> rfl), ?_⟩
    rw [← e]
    exact q
  · have c' : ¬ (k : Int) < (((ns.map V.int).length : Nat) : Int) := of_decide_eq_false (Bool.eq_false_iff.mpr c)
    rw [hl] at c'
    have hk : ns.length ≤ k := by omega
    have e : at0 ns k = 0 := by unfold at0; simp [hk]
    rw [e] at q
    exact q
theorem sc_law_room : FnScope ["_law_script", "_law_most", "_law_bound"] ["_law_script", "_law_most", "_law_bound"] (defScope s_law_room) := ⟨rfl, rfl, rfl, by decide +kernel, rfl, by decide +kernel, by decide +kernel⟩
theorem ok_room (B : Bt mg) (F : Fun K "_law_room" "_law_room" s_law_room f fd) : FnOk P w K mg base CX0 1 f fd ["_law_script", "_law_most", "_law_bound"] (sp_room K) := by
  refine F.ok sc_law_room (fun vs H Q E h => ?_) (fun cdv A outer s H vs Q E hr h => ?_)
  · obtain ⟨a, ns, m, b, rfl, _⟩ := h
    rfl
  obtain ⟨a, ns, m, b, rfl, hS, hl, q⟩ := h
  refine ⟨_, (@pss_cons _ _ _ _ _ (@ps_if _ _ _ _ _ _ _ _ (@pt_cmpR _ _ _ _ _ _ _ _ op_gt (@pe_cB _ _ _ _ _ _ _ _ _ call_len_seq (by rfl) B.len PySem.boot_len (@pa_c _ _ _ _ _ (pv 0) pa_0 (by rfl)) (by rfl) (by rfl) (by decide) (by decide)) pe_int (nomark _)) (@pss_one _ _ _ (@ps_ret _ _ _ _ (pv 2))) pss_nil)
    (@pss_one _ _ _ (@ps_ret _ _ _ _ (pv 1)))), ?_⟩
  refine ⟨_, rfl, a, _, rfl, .inl hS, _, _, rfl, rfl, _, rfl, ?_⟩
  have c : decide ((63 : Int) < (((ns.map V.int).length : Nat) : Int)) = false := decide_eq_false (by rw [List.length_map]; omega)
  rw [c]
  exact iteF ⟨_, rfl, q⟩
theorem sc_law_whole : FnScope ["_law_found"] ["_law_found"] (defScope s_law_whole) := ⟨rfl, rfl, rfl, by decide +kernel, rfl, by decide +kernel, by decide +kernel⟩
theorem ok_whole (B : Bt mg) (F : Fun K "_law_whole" "_law_whole" s_law_whole f fd) : FnOk P w K mg base CX0 1 f fd ["_law_found"] sp_whole := by
  refine F.ok sc_law_whole (fun vs H Q E h => ?_) (fun cdv A outer s H vs Q E hr h => ?_)
  · obtain ⟨i, rfl, _⟩ := h
    rfl
  obtain ⟨i, rfl, q⟩ := h
  refine ⟨_, (@pss_one _ _ _ (@ps_ret _ _ _ _ (@pe_and _ _ _ _ _ _ _ (@pe_isi _ _ _ _ _ _ _ _ B.isinstance B.int PyProof.Rows.boot_int (pv 0) (by rfl) (by rfl) (by rfl) (by decide) (by decide)) (@pe_one _ _ _ _ _ (@pe_not _ _ _ _ (@pe_isi _ _ _ _ _ _ _ _ B.isinstance B.bool PyProof.Rows.boot_bool (pv 0) (by rfl) (by rfl) (by rfl) (by decide) (by decide))))))), ?_⟩
  refine ⟨_, rfl, _, _, _, _, rfl, .int i, kit_same _ _, _, rfl, ?_⟩
  refine iteT ?_
  exact ⟨_, rfl, _, _, _, _, rfl, .int i, kit_int_bool _, _, rfl, q⟩
theorem sc_law_texts : FnScope ["_law_found", "_law_due", "_law_k"] ["_law_found", "_law_due"] (defScope s_law_texts) := ⟨rfl, rfl, rfl, by decide +kernel, rfl, by decide +kernel, by decide +kernel⟩
theorem ok_texts (B : Bt mg) (F : Fun K "_law_texts" "_law_texts" s_law_texts f fd) : FnOk P w K mg base CX0 1 f fd ["_law_found", "_law_due"] sp_texts := by
  refine F.ok sc_law_texts (fun vs H Q E h => ?_) (fun cdv A outer s H vs Q E hr h => ?_)
  · obtain ⟨a, b, xs, rfl, _⟩ := h
    rfl
  obtain ⟨a, b, xs, rfl, ha, hb, hl, q⟩ := h
  refine ⟨_, (@pss_cons _ _ _ _ _ (@ps_if _ _ _ _ _ _ _ _ (@PW.pt _ _ _ (@pw_or _ _ _ _ _ _ _ (@pt_not _ _ _ _ (@pt_vk _ _ _ (@pe_isi _ _ _ _ _ _ _ _ B.isinstance B.list PyProof.Rows.boot_list (pv 0) (by rfl) (by rfl) (by rfl) (by decide) (by decide)) (by intro _; rfl))) (@pw_or1 _ _ _ _ (@pt_cmpR _ _ _ _ _ _ _ _ op_ne (@pe_cB _ _ _ _ _ _ _ _ _ call_len_seq (by rfl) B.len PySem.boot_len (@pa_c _ _ _ _ _ (pv 0) pa_0 (by rfl)) (by rfl) (by rfl) (by decide) (by decide)) (@pe_cB _ _ _ _ _ _ _ _ _ call_len_seq (by rfl) B.len PySem.boot_len (@pa_c _ _ _ _ _ (pv 1) pa_0 (by rfl)) (by rfl) (by rfl) (by decide) (by decide)) (nomark _))))) (@pss_one _ _ _ (@ps_ret _ _ _ _ pe_bl)) pss_nil)
    (@pss_cons _ _ _ _ _ (@ps_fk _ _ _ _ _ _ _ _ PassesOwn.never rfl (@pi_r1 _ _ _ _ _ _ (by rfl) B.range (@pa_c _ _ _ _ _ (@pe_cB _ _ _ _ _ _ _ _ _ call_len_seq (by rfl) B.len PySem.boot_len (@pa_c _ _ _ _ _ (pv 1) pa_0 (by rfl)) (by rfl) (by rfl) (by decide) (by decide)) pa_0 (by rfl)) (by rfl)) (pg_name (i := 2) sc_law_texts.nd rfl (Or.inl rfl))
      (@pss_one _ _ _ (@ps_if _ _ _ _ _ _ _ _ (@PW.pt _ _ _ (@pw_or _ _ _ _ _ _ _ (@pt_not _ _ _ _ (@pt_vk _ _ _ (@pe_isi _ _ _ _ _ _ _ _ B.isinstance B.str PyProof.Rows.boot_str (@pe_ix _ _ _ _ _ _ _ ix_list (pv 0) (pv 2) (fun _ _ => rfl)) (by rfl) (by rfl) (by rfl) (by decide) (by decide)) (by intro _; rfl))) (@pw_or1 _ _ _ _ (@pt_cmpR _ _ _ _ _ _ _ _ op_ne (@pe_ix _ _ _ _ _ _ _ ix_list (pv 0) (pv 2) (fun _ _ => rfl)) (@pe_ix _ _ _ _ _ _ _ ix_list (pv 1) (pv 2) (fun _ _ => rfl)) (nomark _))))) (@pss_one _ _ _ (@ps_ret _ _ _ _ pe_bl)) pss_nil)) (by intro _; rfl))
    (@pss_one _ _ _ (@ps_ret _ _ _ _ pe_bl)))), ?_⟩
  have el : (xs.map V.str).length = xs.length := List.length_map _
  refine ⟨_, rfl, _, _, _, _, rfl, .lst ha, kit_same _ _, _, rfl, ?_⟩
  refine iteF ?_
  refine ⟨_, rfl, a, _, rfl, .inl (SqL.of ha), _, rfl, b, _, rfl, .inl (SqL.of hb), rfl, _, rfl, ?_⟩
  refine iteNS rfl ?_
  refine ⟨_, rfl, b, _, rfl, .inl (SqL.of hb), _, rfl, by omega, by omega, ?_⟩
  refine for_range (fun i σ H' => H' = H ∧ ∃ v, σ = [some (.ref a), some (.ref b), v]) ⟨rfl, none, rfl⟩ ?_ ?_
  · rintro i σ H' hi ⟨rfl, v, rfl⟩
    have hx : i < xs.length := by omega
    have e : atI (xs.map V.str) ((0 : Int) + (i : Int)) = some (.str xs[i]) := by
      rw [Int.zero_add]
      exact atI_nat (by rw [List.getElem?_map, List.getElem?_eq_getElem hx] <;> rfl)
    refine ⟨_, rfl, _, rfl, a, _, _, _, rfl, rfl, SqL.of ha, e, _, _, _, _, rfl, .str _, kit_same _ _, _, rfl, ?_⟩
    refine iteF ?_
    refine ⟨_, rfl, _, rfl, a, _, _, _, rfl, rfl, SqL.of ha, e, _, rfl, _, rfl, b, _, _, _, rfl, rfl, SqL.of hb, e, rfl, _, rfl, ?_⟩
    refine iteNS rfl ?_
    exact ⟨rfl, _, rfl⟩
  · rintro σ H' ⟨rfl, v, rfl⟩
    exact q
end
end Fh


set_option Elab.async false
set_option linter.all false
set_option maxRecDepth 100000
set_option maxHeartbeats 4000000
namespace Fh
open PySem L2 Fd
section
variable {P : Program} {w : World} {K : PySem.W.Frag} {mg : Str → Option Value} {base : Heap} {f : Addr} {fd : FuncData}
theorem toString_short : ∀ j : Nat, j < 100 → (Str.ofString (toString (j : Int))).length ≤ 100 := by decide +kernel
theorem sized {n : Nat} (h : n ≤ 1000) : n < sizeLine := small1000 h
theorem sc_law_letters : FnScope ["_law_many", "_law_gap", "_law_made", "_law_k"] ["_law_many", "_law_gap"] (defScope s_law_letters) := ⟨rfl, rfl, rfl, by decide +kernel, rfl, by decide +kernel, by decide +kernel⟩
theorem ok_letters (B : Bt mg) (F : Fun K "_law_letters" "_law_letters" s_law_letters f fd) : FnOk P w K mg base CX0 1 f fd ["_law_many", "_law_gap"] sp_letters := by
  refine F.ok sc_law_letters (fun vs H Q E h => ?_) (fun cdv A outer s H vs Q E hr h => ?_)
  · obtain ⟨m, g, rfl, _⟩ := h
    rfl
  obtain ⟨m, g, rfl, m0, m1, q⟩ := h
  refine ⟨_, (@pss_cons _ _ _ _ _ (@ps_sk _ _ 2 _ _ _ _ sc_law_letters.nd rfl (Or.inl rfl) (@pe_lx _ _ _ _ pa_0) (by rfl) (by first | exact .inl rfl | exact .inr rfl))
    (@pss_cons _ _ _ _ _ (@ps_fk _ _ _ _ _ _ _ _ PassesOwn.never rfl (@pi_r1 _ _ _ _ _ _ (by rfl) B.range (@pa_c _ _ _ _ _ (pv 0) pa_0 (by rfl)) (by rfl)) (pg_name (i := 3) sc_law_letters.nd rfl (Or.inl rfl))
      (@pss_one _ _ _ (@ps_if _ _ _ _ _ _ _ _ (@pt_cmpR _ _ _ _ _ _ _ _ op_eq (@pe_op _ _ _ _ _ _ _ _ op_mod (@pe_op _ _ _ _ _ _ _ _ op_add (pv 3) (pv 1)) pe_int) pe_int (nomark _)) (@pss_one _ _ _ (@ps_ek _ _ _ _ (@pe_append _ _ _ _ _ _ _ (pv 2) pe_str (by rfl) (by rfl) (by rfl)) (by rfl))) (@pss_one _ _ _ (@ps_ek _ _ _ _ (@pe_append _ _ _ _ _ _ _ (pv 2) (@pe_op _ _ _ _ _ _ _ _ op_add_str (@pe_ix _ _ _ _ _ _ _ ix_list (@pe_lx _ _ _ _ (@pa_c _ _ _ _ _ pe_str (@pa_c _ _ _ _ _ pe_str pa_0 (by rfl)) (by rfl))) (@pe_op _ _ _ _ _ _ _ _ op_mod (pv 1) pe_int) (fun _ _ => rfl)) (@pe_cTy _ _ _ _ _ _ _ _ _ call_str_int (by rfl) B.str PyProof.Rows.boot_str (@pa_c _ _ _ _ _ (@pe_op _ _ _ _ _ _ _ _ op_fdiv (pv 3) pe_int) pa_0 (by rfl)) (by rfl) (by rfl) (by decide) (by decide))) (by rfl) (by rfl) (by rfl)) (by rfl))))) (by intro _; rfl))
    (@pss_one _ _ _ (@ps_ret _ _ _ _ (pv 2))))), ?_⟩
  refine ⟨(by show 0 ≤ sizeLine; decide), fun p hp => ?_⟩
  refine ⟨_, rfl, _, rfl, by omega, by omega, ?_⟩
  have gi : ∃ z : Str, z.length ≤ 100 ∧ atI [V.str "n", V.str "A note, ~"] (g % 2) = some (.str z) := by
    rcases (by omega : g % 2 = 0 ∨ g % 2 = 1) with e | e
    · rw [e]; exact ⟨"n", by decide +kernel, rfl⟩
    · rw [e]; exact ⟨"A note, ~", by decide +kernel, rfl⟩
  obtain ⟨z, hz, gz⟩ := gi
  refine for_range (fun i σ H' => ∃ (xs : List Str) (v : Option V), xs.length = i ∧ σ = [some (.int m), some (.int g), some (.ref p), v] ∧ Same H H' ∧ H' p = some (.lst (xs.map V.str)))
    ⟨[], none, rfl, rfl, same_new hp _, upd_same⟩ ?_ ?_
  · rintro i σ H' hi ⟨xs, v, hx, rfl, s1, h1⟩
    have hz2 : (xs.map V.str).length < sizeLine := sized (by rw [List.length_map]; omega)
    have up : ∀ (H2 : Hp) (o : HO), Same H H2 → Same H (upd H2 p o) := fun H2 o s2 b u e => by rw [upd_ne (ne_of_none e hp)]; exact s2 b u e
    refine ⟨_, rfl, _, rfl, _, _, rfl, rfl, _, _, rfl, rfl, (by show (0 : Int) < 5; decide), rfl, _, rfl, ?_⟩
    refine ite2 (fun _ => ?_) (fun _ => ?_)
    · refine ⟨_, rfl, .inl ⟨rfl, _, SqL.of h1⟩, p, _, _, rfl, rfl, h1, hz2, ?_⟩
      exact ⟨xs ++ [("" : Str)], _, by simp [hx], rfl, up _ _ s1, by rw [upd_same, List.map_append]; rfl⟩
    · refine ⟨_, rfl, .inl ⟨rfl, _, SqL.of h1⟩, (by show 2 ≤ sizeLine; decide), fun t ht => ?_⟩
      have np : p ≠ t := ne_of_none h1 ht
      refine ⟨_, rfl, _, _, rfl, rfl, (by show (0 : Int) < 2; decide), t, _, _, _, rfl, rfl, SqL.of upd_same, gz, ?_⟩
      refine ⟨_, rfl, _, _, rfl, rfl, ⟨by decide, by decide⟩, _, rfl, ?_, ?_⟩
      · exact Nat.lt_of_le_of_lt (Nat.log2_le_self _) (by omega)
      refine ⟨_, _, rfl, rfl, ?_, ?_⟩
      · have e : (0 + (i : Int)) / 2 = ((i / 2 : Nat) : Int) := by omega
        have b1 := toString_short (i / 2) (by omega)
        rw [e]
        exact small (by omega)
      refine ⟨p, _, _, rfl, rfl, (by rw [upd_ne np]; exact h1), hz2, ?_⟩
      refine ⟨xs ++ [z ++ Str.ofString (toString ((0 + (i : Int)) / 2))], _, by simp [hx], rfl, up _ _ (s1.trans (same_new ht _)), ?_⟩
      rw [upd_same, List.map_append]
      rfl
  · rintro σ H' ⟨xs, v, hx, rfl, s1, h1⟩
    exact ⟨_, rfl, q p xs H' hp s1 h1 (by omega)⟩
theorem sc_law_same : FnScope ["_law_handed", "_law_asked", "_law_k"] ["_law_handed", "_law_asked"] (defScope s_law_same) := ⟨rfl, rfl, rfl, by decide +kernel, rfl, by decide +kernel, by decide +kernel⟩
theorem ok_same (B : Bt mg) (D_law_whole : Df P w K mg base "_law_whole" 1 ["_law_found"] sp_whole) (F : Fun K "_law_same" "_law_same" s_law_same f fd) : FnOk P w K mg base CX0 2 f fd ["_law_handed", "_law_asked"] sp_same := by
  refine F.ok sc_law_same (fun vs H Q E h => ?_) (fun cdv A outer s H vs Q E hr h => ?_)
  · obtain ⟨a, b, as, ds, rfl, _⟩ := h
    rfl
  obtain ⟨a, b, as, ds, rfl, ha, hb, D, hl, q⟩ := h
  refine ⟨_, (@pss_cons _ _ _ _ _ (@ps_if _ _ _ _ _ _ _ _ (@pt_cmpR _ _ _ _ _ _ _ _ op_ne (@pe_cB _ _ _ _ _ _ _ _ _ call_len_seq (by rfl) B.len PySem.boot_len (@pa_c _ _ _ _ _ (pv 0) pa_0 (by rfl)) (by rfl) (by rfl) (by decide) (by decide)) (@pe_cB _ _ _ _ _ _ _ _ _ call_len_seq (by rfl) B.len PySem.boot_len (@pa_c _ _ _ _ _ (pv 1) pa_0 (by rfl)) (by rfl) (by rfl) (by decide) (by decide)) (nomark _)) (@pss_one _ _ _ (@ps_ret _ _ _ _ pe_bl)) pss_nil)
    (@pss_cons _ _ _ _ _ (@ps_fk _ _ _ _ _ _ _ _ PassesOwn.never rfl (@pi_r1 _ _ _ _ _ _ (by rfl) B.range (@pa_c _ _ _ _ _ (@pe_cB _ _ _ _ _ _ _ _ _ call_len_seq (by rfl) B.len PySem.boot_len (@pa_c _ _ _ _ _ (pv 1) pa_0 (by rfl)) (by rfl) (by rfl) (by decide) (by decide)) pa_0 (by rfl)) (by rfl)) (pg_name (i := 2) sc_law_same.nd rfl (Or.inl rfl))
      (@pss_cons _ _ _ _ _ (@ps_if _ _ _ _ _ _ _ _ (@PW.pt _ _ _ (@pw_or _ _ _ _ _ _ _ (@pt_not _ _ _ _ (@pt_vk _ _ _ (@pe_isi _ _ _ _ _ _ _ _ B.isinstance B.tuple PyProof.Rows.boot_tuple (@pe_ix _ _ _ _ _ _ _ ix_list (pv 0) (pv 2) (fun _ _ => rfl)) (by rfl) (by rfl) (by rfl) (by decide) (by decide)) (by intro _; rfl))) (@pw_or1 _ _ _ _ (@pt_cmpR _ _ _ _ _ _ _ _ op_ne (@pe_cB _ _ _ _ _ _ _ _ _ call_len_seq (by rfl) B.len PySem.boot_len (@pa_c _ _ _ _ _ (@pe_ix _ _ _ _ _ _ _ ix_list (pv 0) (pv 2) (fun _ _ => rfl)) pa_0 (by rfl)) (by rfl) (by rfl) (by decide) (by decide)) (@pe_cB _ _ _ _ _ _ _ _ _ call_len_seq (by rfl) B.len PySem.boot_len (@pa_c _ _ _ _ _ (@pe_ix _ _ _ _ _ _ _ ix_list (pv 1) (pv 2) (fun _ _ => rfl)) pa_0 (by rfl)) (by rfl) (by rfl) (by decide) (by decide)) (nomark _))))) (@pss_one _ _ _ (@ps_ret _ _ _ _ pe_bl)) pss_nil)
      (@pss_cons _ _ _ _ _ (@ps_if _ _ _ _ _ _ _ _ (@PW.pt _ _ _ (@pw_or _ _ _ _ _ _ _ (@pt_not _ _ _ _ (@pt_vk _ _ _ (@pe_isi _ _ _ _ _ _ _ _ B.isinstance B.str PyProof.Rows.boot_str (@pe_ix _ _ _ _ _ _ _ ix_tup (@pe_ix _ _ _ _ _ _ _ ix_list (pv 0) (pv 2) (fun _ _ => rfl)) pe_int (fun _ _ => rfl)) (by rfl) (by rfl) (by rfl) (by decide) (by decide)) (by intro _; rfl))) (@pw_or1 _ _ _ _ (@pt_cmpR _ _ _ _ _ _ _ _ op_ne (@pe_ix _ _ _ _ _ _ _ ix_tup (@pe_ix _ _ _ _ _ _ _ ix_list (pv 0) (pv 2) (fun _ _ => rfl)) pe_int (fun _ _ => rfl)) (@pe_ix _ _ _ _ _ _ _ ix_tup (@pe_ix _ _ _ _ _ _ _ ix_list (pv 1) (pv 2) (fun _ _ => rfl)) pe_int (fun _ _ => rfl)) (nomark _))))) (@pss_one _ _ _ (@ps_ret _ _ _ _ pe_bl)) pss_nil)
      (@pss_one _ _ _ (@ps_if _ _ _ _ _ _ _ _ (@pt_cmpR _ _ _ _ _ _ _ _ op_eq (@pe_cB _ _ _ _ _ _ _ _ _ call_len_seq (by rfl) B.len PySem.boot_len (@pa_c _ _ _ _ _ (@pe_ix _ _ _ _ _ _ _ ix_list (pv 1) (pv 2) (fun _ _ => rfl)) pa_0 (by rfl)) (by rfl) (by rfl) (by decide) (by decide)) pe_int (nomark _)) (@pss_one _ _ _ (@ps_if _ _ _ _ _ _ _ _ (@PW.pt _ _ _ (@pw_or _ _ _ _ _ _ _ (@pt_not _ _ _ _ (@pt_vk _ _ _ (@pe_df _ _ _ _ _ _ _ _ _ _ _ D_law_whole hr (by decide) (by rfl) (@pa_c _ _ _ _ _ (@pe_ix _ _ _ _ _ _ _ ix_tup (@pe_ix _ _ _ _ _ _ _ ix_list (pv 0) (pv 2) (fun _ _ => rfl)) pe_int (fun _ _ => rfl)) pa_0 (by rfl)) (by rfl) (by rfl) (by decide)) (by intro _; rfl))) (@pw_or1 _ _ _ _ (@pt_cmpR _ _ _ _ _ _ _ _ op_ne (@pe_ix _ _ _ _ _ _ _ ix_tup (@pe_ix _ _ _ _ _ _ _ ix_list (pv 0) (pv 2) (fun _ _ => rfl)) pe_int (fun _ _ => rfl)) (@pe_ix _ _ _ _ _ _ _ ix_tup (@pe_ix _ _ _ _ _ _ _ ix_list (pv 1) (pv 2) (fun _ _ => rfl)) pe_int (fun _ _ => rfl)) (nomark _))))) (@pss_one _ _ _ (@ps_ret _ _ _ _ pe_bl)) pss_nil)) pss_nil)))) (by intro _; rfl))
    (@pss_one _ _ _ (@ps_ret _ _ _ _ pe_bl)))), ?_⟩
  have el : (as.map V.ref).length = as.length := List.length_map _
  refine ⟨_, rfl, a, _, rfl, .inl (SqL.of ha), _, rfl, b, _, rfl, .inl (SqL.of hb), rfl, _, rfl, ?_⟩
  refine iteNS rfl ?_
  refine ⟨_, rfl, b, _, rfl, .inl (SqL.of hb), _, rfl, by omega, by omega, ?_⟩
  refine for_range (fun i σ H' => H' = H ∧ ∃ v, σ = [some (.ref a), some (.ref b), v]) ⟨rfl, none, rfl⟩ ?_ ?_
  · rintro i σ H' hi ⟨rfl, v, rfl⟩
    have hx : i < (as.map V.ref).length := by omega
    obtain ⟨t, d, e1, _, _, ht⟩ := D.get (List.getElem?_eq_getElem hx)
    have e : atI (as.map V.ref) ((0 : Int) + (i : Int)) = some (.ref t) := by
      rw [Int.zero_add]
      exact atI_nat (by rw [List.getElem?_eq_getElem hx, e1])
    have g : ∃ (x : Str) (r : List V), dV d = .str x :: r ∧ (r = [] ∨ ∃ i : Int, r = [.int i]) := by
      cases d <;> exact ⟨_, _, rfl, by simp⟩
    obtain ⟨x, r, er, hr2⟩ := g
    rw [er] at ht
    have T := SqT.of (K := K) ht
    refine ⟨_, rfl, _, rfl, a, _, _, _, rfl, rfl, SqL.of ha, e, _, _, _, _, rfl, .tup ht, kit_same _ _, _, rfl, ?_⟩
    refine iteF ?_
    refine ⟨_, rfl, _, rfl, a, _, _, _, rfl, rfl, SqL.of ha, e, t, _, rfl, .inr T, _, rfl, _, rfl, b, _, _, _, rfl, rfl, SqL.of hb, e, t, _, rfl, .inr T, rfl, _, rfl, ?_⟩
    refine iteNS rfl ?_
    refine ⟨_, rfl, _, rfl, a, _, _, _, rfl, rfl, SqL.of ha, e, t, _, _, _, rfl, rfl, T, at_head _ _, _, _, _, _, rfl, .str _, kit_same _ _, _, rfl, ?_⟩
    refine iteF ?_
    refine ⟨_, rfl, _, rfl, a, _, _, _, rfl, rfl, SqL.of ha, e, t, _, _, _, rfl, rfl, T, at_head _ _, _, rfl, _, rfl, b, _, _, _, rfl, rfl, SqL.of hb, e, t, _, _, _, rfl, rfl, T, at_head _ _, rfl, _, rfl, ?_⟩
    refine iteNS rfl ?_
    refine ⟨_, rfl, _, rfl, b, _, _, _, rfl, rfl, SqL.of hb, e, t, _, rfl, .inr T, rfl, _, rfl, ?_⟩
    rcases hr2 with rfl | ⟨j, rfl⟩
    · refine iteF ?_
      exact ⟨rfl, _, rfl⟩
    · refine iteT ?_
      refine ⟨_, rfl, _, rfl, a, _, _, _, rfl, rfl, SqL.of ha, e, t, _, _, _, rfl, rfl, T, at_second _ _ _, j, rfl, _, rfl, ?_⟩
      refine iteF ?_
      refine ⟨_, rfl, _, rfl, a, _, _, _, rfl, rfl, SqL.of ha, e, t, _, _, _, rfl, rfl, T, at_second _ _ _, _, rfl, _, rfl, b, _, _, _, rfl, rfl, SqL.of hb, e, t, _, _, _, rfl, rfl, T, at_second _ _ _, rfl, _, rfl, ?_⟩
      refine iteNS rfl ?_
      exact ⟨rfl, _, rfl⟩
  · rintro σ H' ⟨rfl, v, rfl⟩
    exact q
end
end Fh


set_option Elab.async false
set_option linter.all false
set_option maxRecDepth 100000
set_option maxHeartbeats 4000000
namespace Fh
open PySem L2 Fd
/-! ### the day kept beside -/
def rowV (s : N) : List V := [.int s.first, .int s.came, .int (s.there.length : Nat), .int (s.back.length : Nat)]
/-- as it stands behind the first i deeds -/
abbrev nAt (nt wd : Int) (ds : List Deed) (i : Nat) : N := endN nt wd N.start (ds.take i)
theorem nAt_succ {nt wd : Int} {ds : List Deed} {i : Nat} {d : Deed} (h : ds[i]? = some d) : nAt nt wd ds (i + 1) = (stepN nt wd (nAt nt wd ds i) d).2 := by
  unfold nAt
  rw [List.take_add_one, h, endN_append]
  rfl
theorem nAt_len (nt wd : Int) (ds : List Deed) (i : Nat) : (nAt nt wd ds i).there.length ≤ i ∧ (nAt nt wd ds i).back.length ≤ i ∧ (nAt nt wd ds i).early.length ≤ i := by
  have h := there_le nt wd (ds.take i) N.start
  have g := early_le nt wd (ds.take i) N.start
  have l : (ds.take i).length ≤ i := by rw [List.length_take]; omega
  simp only [N.start, List.length_nil, Nat.zero_add] at h g
  unfold nAt
  simp only [N.start]
  omega
structure RowsAt (H : Hp) (rs : List Addr) (nt wd : Int) (ds : List Deed) (k : Nat) : Prop where
  len : rs.length = k
  has : ∀ i : Nat, i < k → ∃ a, rs[i]? = some a ∧ H a = some (.tup (rowV (nAt nt wd ds (i + 1))))
theorem RowsAt.tk {H H' : Hp} {rs : List Addr} {nt wd : Int} {ds : List Deed} {k : Nat} (h : RowsAt H rs nt wd ds k) (t : Tk H H') : RowsAt H' rs nt wd ds k :=
  ⟨h.len, fun i hi => let ⟨a, h1, h2⟩ := h.has i hi; ⟨a, h1, t _ _ h2⟩⟩
theorem RowsAt.more {H : Hp} {rs : List Addr} {nt wd : Int} {ds : List Deed} {k : Nat} {t : Addr} (h : RowsAt H rs nt wd ds k) (ht : H t = some (.tup (rowV (nAt nt wd ds (k + 1))))) : RowsAt H (rs ++ [t]) nt wd ds (k + 1) := by
  refine ⟨by rw [List.length_append, h.len]; rfl, fun i hi => ?_⟩
  by_cases e : i < k
  · obtain ⟨a, h1, h2⟩ := h.has i e
    exact ⟨a, by rw [List.getElem?_append_left (by rw [h.len]; exact e)]; exact h1, h2⟩
  · have e2 : i = rs.length := by rw [h.len]; omega
    subst e2
    refine ⟨t, by simp, ?_⟩
    rw [h.len]
    exact ht
/-- the lists of the day kept beside -/
structure PlAt (H H' : Hp) (s : N) (pr pe pt pb : Addr) (rs : List Addr) : Prop where
  sm : Same H H'
  nr : H pr = none
  ne : H pe = none
  nt : H pt = none
  nb : H pb = none
  hr : H' pr = some (.lst (rs.map V.ref))
  he : H' pe = some (.lst (s.early.map V.int))
  ht : H' pt = some (.lst (s.there.map V.int))
  hb : H' pb = some (.lst (s.back.map V.int))
  re : pr ≠ pe
  rt : pr ≠ pt
  rb : pr ≠ pb
  et : pe ≠ pt
  eb : pe ≠ pb
  tb : pt ≠ pb
section
variable {H H' : Hp} {s : N} {pr pe pt pb q : Addr} {rs : List Addr}
theorem PlAt.fresh (h : PlAt H H' s pr pe pt pb rs) (hq : H' q = none) : H q = none := h.sm.free hq
theorem PlAt.new (h : PlAt H H' s pr pe pt pb rs) (hq : H' q = none) (o : HO) : PlAt H (upd H' q o) s pr pe pt pb rs :=
  ⟨h.sm.new hq o, h.nr, h.ne, h.nt, h.nb, by rw [upd_ne (ne_of_none h.hr hq)]; exact h.hr, by rw [upd_ne (ne_of_none h.he hq)]; exact h.he, by rw [upd_ne (ne_of_none h.ht hq)]; exact h.ht, by rw [upd_ne (ne_of_none h.hb hq)]; exact h.hb,
    h.re, h.rt, h.rb, h.et, h.eb, h.tb⟩
/-- another line there -/
theorem PlAt.there (h : PlAt H H' s pr pe pt pb rs) {t : List Int} (hq : H' q = some (.lst (t.map V.int))) (nq : H q = none) (d1 : q ≠ pr) (d2 : q ≠ pe) (d3 : q ≠ pb) : PlAt H H' { s with there := t } pr pe q pb rs :=
  ⟨h.sm, h.nr, h.ne, nq, h.nb, h.hr, h.he, hq, h.hb, h.re, d1.symm, h.rb, d2.symm, h.eb, d3⟩
theorem PlAt.back (h : PlAt H H' s pr pe pt pb rs) {t : List Int} (hq : H' q = some (.lst (t.map V.int))) (nq : H q = none) (d1 : q ≠ pr) (d2 : q ≠ pe) (d3 : q ≠ pt) : PlAt H H' { s with back := t } pr pe pt q rs :=
  ⟨h.sm, h.nr, h.ne, h.nt, nq, h.hr, h.he, h.ht, hq, h.re, h.rt, d1.symm, h.et, d2.symm, d3.symm⟩
/-- a new list is the line there, the line back -/
theorem PlAt.thereNew (h : PlAt H H' s pr pe pt pb rs) {t : List Int} (hq : H' q = none) : PlAt H (upd H' q (.lst (t.map V.int))) { s with there := t } pr pe q pb rs :=
  (h.new hq _).there upd_same (h.fresh hq) (ne_of_none h.hr hq).symm (ne_of_none h.he hq).symm (ne_of_none h.hb hq).symm
theorem PlAt.backNew (h : PlAt H H' s pr pe pt pb rs) {t : List Int} (hq : H' q = none) : PlAt H (upd H' q (.lst (t.map V.int))) { s with back := t } pr pe pt q rs :=
  (h.new hq _).back upd_same (h.fresh hq) (ne_of_none h.hr hq).symm (ne_of_none h.he hq).symm (ne_of_none h.ht hq).symm
theorem PlAt.wThere (h : PlAt H H' s pr pe pt pb rs) {t : List Int} : PlAt H (upd H' pt (.lst (t.map V.int))) { s with there := t } pr pe pt pb rs :=
  ⟨h.sm.write h.nt _, h.nr, h.ne, h.nt, h.nb, by rw [upd_ne h.rt]; exact h.hr, by rw [upd_ne h.et]; exact h.he, upd_same, by rw [upd_ne h.tb.symm]; exact h.hb, h.re, h.rt, h.rb, h.et, h.eb, h.tb⟩
theorem PlAt.wBack (h : PlAt H H' s pr pe pt pb rs) {t : List Int} : PlAt H (upd H' pb (.lst (t.map V.int))) { s with back := t } pr pe pt pb rs :=
  ⟨h.sm.write h.nb _, h.nr, h.ne, h.nt, h.nb, by rw [upd_ne h.rb]; exact h.hr, by rw [upd_ne h.eb]; exact h.he, by rw [upd_ne h.tb]; exact h.ht, upd_same, h.re, h.rt, h.rb, h.et, h.eb, h.tb⟩
theorem PlAt.wEarly (h : PlAt H H' s pr pe pt pb rs) {t : List Int} : PlAt H (upd H' pe (.lst (t.map V.int))) { s with early := t } pr pe pt pb rs :=
  ⟨h.sm.write h.ne _, h.nr, h.ne, h.nt, h.nb, by rw [upd_ne h.re]; exact h.hr, upd_same, by rw [upd_ne h.et.symm]; exact h.ht, by rw [upd_ne h.eb.symm]; exact h.hb, h.re, h.rt, h.rb, h.et, h.eb, h.tb⟩
theorem PlAt.wRows (h : PlAt H H' s pr pe pt pb rs) {t : List Addr} : PlAt H (upd H' pr (.lst (t.map V.ref))) s pr pe pt pb t :=
  ⟨h.sm.write h.nr _, h.nr, h.ne, h.nt, h.nb, upd_same, by rw [upd_ne h.re.symm]; exact h.he, by rw [upd_ne h.rt.symm]; exact h.ht, by rw [upd_ne h.rb.symm]; exact h.hb, h.re, h.rt, h.rb, h.et, h.eb, h.tb⟩
theorem PlAt.ints (h : PlAt H H' s pr pe pt pb rs) (f c : Int) : PlAt H H' { s with first := f, came := c } pr pe pt pb rs :=
  ⟨h.sm, h.nr, h.ne, h.nt, h.nb, h.hr, h.he, h.ht, h.hb, h.re, h.rt, h.rb, h.et, h.eb, h.tb⟩
end
def plSt (H : Hp) (nt wd : Int) (ds : List Deed) (n b : Addr) (s : N) (k : Nat) : St → Hp → Prop := fun σ H' => ∃ (pr pe pt pb : Addr) (rs : List Addr) (v9 v10 v11 : Option V),
  σ = [some (.ref n), some (.int wd), some (.ref b), some (.ref pr), some (.int s.first), some (.int s.came), some (.ref pe), some (.ref pt), some (.ref pb), v9, v10, v11] ∧ PlAt H H' s pr pe pt pb rs ∧ RowsAt H' rs nt wd ds k
def rowR (H : Hp) (nt wd : Int) (ds : List Deed) (n b : Addr) : TS := fun D σ H' => ∃ i : Nat, i < ds.length ∧ plSt H nt wd ds n b (nAt nt wd ds (i + 1)) i σ H' ∧ ∀ σ' H'', plSt H nt wd ds n b (nAt nt wd ds (i + 1)) (i + 1) σ' H'' → D.nx σ' H''
theorem cut1 (x : V) (r : List V) : cutV (x :: r) none (some 1) = [x] := by
  show ((x :: r).drop 0).take (min 1 (r.length + 1) - 0) = [x]
  rw [show min 1 (r.length + 1) - 0 = 1 by omega]
  rfl
theorem cut2 (xs : List V) : cutV xs (some 1) none = xs.drop 1 := by
  unfold cutV
  show (xs.drop (min 1 xs.length)).take (xs.length - min 1 xs.length) = xs.drop 1
  cases xs with
  | nil => rfl
  | cons x r =>
    rw [show min 1 (x :: r).length = 1 by simp]
    rw [List.take_of_length_le (by simp)]
theorem inV_int (c : Int) (ns : List Int) : inV (.int c) (ns.map V.int) = decide (c ∈ ns) := by
  unfold inV
  induction ns with
  | nil => simp
  | cons n r ih =>
    rw [List.map_cons, List.any_cons, ih]
    show ((n == c) || decide (c ∈ r)) = decide (c ∈ n :: r)
    by_cases h : n = c
    · simp [h]
    · have h' : ¬ c = n := fun z => h z.symm
      simp [h, h']
theorem flat_ints (ns : List Int) : (ns.map V.int).all flatV = true := by
  induction ns with
  | nil => rfl
  | cons n r ih => rw [List.map_cons, List.all_cons, ih]; rfl
def sp_plainly : Sp := fun vs H Q _ => ∃ (n b : Addr) (wd : Int) (notes : List Str) (as : List Addr) (ds : List Deed), vs = [.ref n, .int wd, .ref b] ∧ H n = some (.lst (notes.map V.str)) ∧ H b = some (.lst (as.map V.ref)) ∧ DeedsAt H as ds ∧ ds.length ≤ 400 ∧ 1 ≤ wd ∧
  ∀ (p : Addr) (rs : List Addr) (H' : Hp), H p = none → Same H H' → H' p = some (.lst (rs.map V.ref)) → RowsAt H' rs notes.length wd ds ds.length → Q (.ref p) H'
section
variable {P : Program} {w : World} {K : PySem.W.Frag} {mg : Str → Option Value} {base : Heap} {f : Addr} {fd : FuncData}
theorem sc_law_plainly : FnScope ["_law_notes", "_law_width", "_law_asked", "_law_rows", "_law_first", "_law_came", "_law_early", "_law_there", "_law_back", "_law_deed", "_law_word", "_law_number"] ["_law_notes", "_law_width", "_law_asked"] (defScope s_law_plainly) := ⟨rfl, rfl, rfl, by decide +kernel, rfl, by decide +kernel, by decide +kernel⟩
theorem ok_plainly (B : Bt mg) (F : Fun K "_law_plainly" "_law_plainly" s_law_plainly f fd) : FnOk P w K mg base CX0 1 f fd ["_law_notes", "_law_width", "_law_asked"] sp_plainly := by
  refine F.ok sc_law_plainly (fun vs H Q E h => ?_) (fun cdv A outer s H vs Q E hr h => ?_)
  · obtain ⟨n, b, wd, notes, as, ds, rfl, _⟩ := h
    rfl
  obtain ⟨n, b, wd, notes, as, ds, rfl, hn, hb, D, hl, hw, q⟩ := h
  obtain ⟨nt, ent⟩ : ∃ nt : Int, nt = (notes.length : Int) := ⟨_, rfl⟩
  rw [← ent] at q
  refine ⟨_, (@pss_cons _ _ _ _ _ (@ps_sk _ _ 3 _ _ _ _ sc_law_plainly.nd rfl (Or.inl rfl) (@pe_lx _ _ _ _ pa_0) (by rfl) (by first | exact .inl rfl | exact .inr rfl))
    (@pss_cons _ _ _ _ _ (@ps_sk _ _ 4 _ _ _ _ sc_law_plainly.nd rfl (Or.inl rfl) pe_int (by rfl) (by first | exact .inl rfl | exact .inr rfl))
    (@pss_cons _ _ _ _ _ (@ps_sk _ _ 5 _ _ _ _ sc_law_plainly.nd rfl (Or.inl rfl) pe_int (by rfl) (by first | exact .inl rfl | exact .inr rfl))
    (@pss_cons _ _ _ _ _ (@ps_sk _ _ 6 _ _ _ _ sc_law_plainly.nd rfl (Or.inl rfl) (@pe_lx _ _ _ _ pa_0) (by rfl) (by first | exact .inl rfl | exact .inr rfl))
    (@pss_cons _ _ _ _ _ (@ps_sk _ _ 7 _ _ _ _ sc_law_plainly.nd rfl (Or.inl rfl) (@pe_lx _ _ _ _ pa_0) (by rfl) (by first | exact .inl rfl | exact .inr rfl))
    (@pss_cons _ _ _ _ _ (@ps_sk _ _ 8 _ _ _ _ sc_law_plainly.nd rfl (Or.inl rfl) (@pe_lx _ _ _ _ pa_0) (by rfl) (by first | exact .inl rfl | exact .inr rfl))
    (@pss_cons _ _ _ _ _ (@ps_fk _ _ _ _ _ _ _ _ PassesOwn.never rfl (@pi_list _ _ _ _ (pv 2)) (pg_name (i := 9) sc_law_plainly.nd rfl (Or.inl rfl))
      (@pss_cons _ _ _ _ _ (@ps_sk _ _ 10 _ _ _ _ sc_law_plainly.nd rfl (Or.inl rfl) (@pe_ix _ _ _ _ _ _ _ ix_tup (pv 9) pe_int (fun _ _ => rfl)) (by rfl) (by first | exact .inl rfl | exact .inr rfl))
      (@pss_cons _ _ _ _ _ (@ps_sk _ _ 11 _ _ _ _ sc_law_plainly.nd rfl (Or.inl rfl) (@pe_un _ _ _ _ _ _ un_neg pe_int) (by rfl) (by first | exact .inl rfl | exact .inr rfl))
      (@pss_cons _ _ _ _ _ (@ps_if _ _ _ _ _ _ _ _ (@PW.pt _ _ _ (@pw_and _ _ _ _ _ _ _ (@pt_cmpR _ _ _ _ _ _ _ _ op_eq (pv 10) pe_str (nomark _)) (@pw_and _ _ _ _ _ _ _ (@pt_cmpR _ _ _ _ _ _ _ _ op_le pe_int (@pe_ix _ _ _ _ _ _ _ ix_tup (pv 9) pe_int (fun _ _ => rfl)) (nomark _)) (@pw_and1 _ _ _ _ (@pt_cmpR _ _ _ _ _ _ _ _ op_lt (@pe_ix _ _ _ _ _ _ _ ix_tup (pv 9) pe_int (fun _ _ => rfl)) (pv 1) (nomark _)))))) (@pss_one _ _ _ (@ps_sk _ _ 11 _ _ _ _ sc_law_plainly.nd rfl (Or.inl rfl) (@pe_op _ _ _ _ _ _ _ _ op_add (pv 4) (@pe_ix _ _ _ _ _ _ _ ix_tup (pv 9) pe_int (fun _ _ => rfl))) (by rfl) (by first | exact .inl rfl | exact .inr rfl))) pss_nil)
      (@pss_cons _ _ _ _ _ (@ps_if _ _ _ _ _ _ _ _ (@PW.pt _ _ _ (@pw_and _ _ _ _ _ _ _ (@pt_cmpR _ _ _ _ _ _ _ _ op_le pe_int (pv 11) (nomark _)) (@pw_and1 _ _ _ _ (@pt_cmpR _ _ _ _ _ _ _ _ op_lt (pv 11) (@pe_cB _ _ _ _ _ _ _ _ _ call_len_seq (by rfl) B.len PySem.boot_len (@pa_c _ _ _ _ _ (pv 0) pa_0 (by rfl)) (by rfl) (by rfl) (by decide) (by decide)) (nomark _))))) (@pss_one _ _ _ (@ps_ek _ _ _ _ (@pe_append _ _ _ _ _ _ _ (pv 7) (pv 11) (by rfl) (by rfl) (by rfl)) (by rfl))) (@pss_one _ _ _ (@ps_if _ _ _ _ _ _ _ _ (@pt_cmpR _ _ _ _ _ _ _ _ op_eq (pv 10) pe_str (nomark _)) (@pss_one _ _ _ (@ps_ek _ _ _ _ (@pe_append _ _ _ _ _ _ _ (pv 8) (pv 5) (by rfl) (by rfl) (by rfl)) (by rfl))) (@pss_one _ _ _ (@ps_if _ _ _ _ _ _ _ _ (@PW.pt _ _ _ (@pw_and _ _ _ _ _ _ _ (@pt_cmpR _ _ _ _ _ _ _ _ op_eq (pv 10) pe_str (nomark _)) (@pw_and1 _ _ _ _ (@pt_cmpR _ _ _ _ _ _ _ _ (op_neL (hu64 hr)) (pv 7) (@pe_lx _ _ _ _ pa_0) (nomark _))))) (@pss_one _ _ _ (@ps_sk _ _ 7 _ _ _ _ sc_law_plainly.nd rfl (Or.inl rfl) (@pe_op _ _ _ _ _ _ _ _ op_cat (@pe_slice _ _ _ _ _ _ _ _ _ _ sl_list (pv 7) po_none (@po_some _ _ _ pe_int)) (pv 7)) (by rfl) (by first | exact .inl rfl | exact .inr rfl))) (@pss_one _ _ _ (@ps_if _ _ _ _ _ _ _ _ (@PW.pt _ _ _ (@pw_and _ _ _ _ _ _ _ (@pt_cmpR _ _ _ _ _ _ _ _ op_eq (pv 10) pe_str (nomark _)) (@pw_and1 _ _ _ _ (@pt_cmpR _ _ _ _ _ _ _ _ (op_neL (hu64 hr)) (pv 8) (@pe_lx _ _ _ _ pa_0) (nomark _))))) (@pss_one _ _ _ (@ps_sk _ _ 8 _ _ _ _ sc_law_plainly.nd rfl (Or.inl rfl) (@pe_op _ _ _ _ _ _ _ _ op_cat (@pe_slice _ _ _ _ _ _ _ _ _ _ sl_list (pv 8) po_none (@po_some _ _ _ pe_int)) (pv 8)) (by rfl) (by first | exact .inl rfl | exact .inr rfl))) (@pss_one _ _ _ (@ps_if _ _ _ _ _ _ _ _ (@pt_cmpR _ _ _ _ _ _ _ _ op_eq (pv 10) pe_str (nomark _)) (@pss_one _ _ _ (@ps_sk _ _ 7 _ _ _ _ sc_law_plainly.nd rfl (Or.inl rfl) (@pe_slice _ _ _ _ _ _ _ _ _ _ sl_list (pv 7) (@po_some _ _ _ pe_int) po_none) (by rfl) (by first | exact .inl rfl | exact .inr rfl))) (@pss_one _ _ _ (@ps_if _ _ _ _ _ _ _ _ (@pt_cmpR _ _ _ _ _ _ _ _ op_eq (pv 10) pe_str (nomark _)) (@pss_one _ _ _ (@ps_sk _ _ 8 _ _ _ _ sc_law_plainly.nd rfl (Or.inl rfl) (@pe_slice _ _ _ _ _ _ _ _ _ _ sl_list (pv 8) (@po_some _ _ _ pe_int) po_none) (by rfl) (by first | exact .inl rfl | exact .inr rfl))) (@pss_one _ _ _ (@ps_if _ _ _ _ _ _ _ _ (@PW.pt _ _ _ (@pw_and _ _ _ _ _ _ _ (@pt_cmpR _ _ _ _ _ _ _ _ op_eq (pv 10) pe_str (nomark _)) (@pw_and1 _ _ _ _ (@pt_cmpR _ _ _ _ _ _ _ _ (op_neL (hu64 hr)) (pv 7) (@pe_lx _ _ _ _ pa_0) (nomark _))))) (@pss_cons _ _ _ _ _ (@ps_ek _ _ _ _ (@pe_append _ _ _ _ _ _ _ (pv 6) (@pe_ix _ _ _ _ _ _ _ ix_list (pv 7) pe_int (fun _ _ => rfl)) (by rfl) (by rfl) (by rfl)) (by rfl))
                    (@pss_cons _ _ _ _ _ (@ps_sk _ _ 7 _ _ _ _ sc_law_plainly.nd rfl (Or.inl rfl) (@pe_slice _ _ _ _ _ _ _ _ _ _ sl_list (pv 7) (@po_some _ _ _ pe_int) po_none) (by rfl) (by first | exact .inl rfl | exact .inr rfl))
                    (@pss_one _ _ _ (@ps_while _ _ _ _ _ _ PassesOwn.never (@pt_cmpR _ _ _ _ _ _ _ _ op_in_seq (pv 5) (pv 6) (by rfl)) (@pss_one _ _ _ (@ps_sk _ _ 5 _ _ _ _ sc_law_plainly.nd rfl (Or.inl rfl) (@pe_op _ _ _ _ _ _ _ _ op_add (pv 5) pe_int) (by rfl) (by first | exact .inl rfl | exact .inr rfl))))))) (@pss_one _ _ _ (@ps_if _ _ _ _ _ _ _ _ (@PW.pt _ _ _ (@pw_and _ _ _ _ _ _ _ (@pt_cmpR _ _ _ _ _ _ _ _ op_eq (pv 10) pe_str (nomark _)) (@pw_and1 _ _ _ _ (@pt_cmpR _ _ _ _ _ _ _ _ (op_neL (hu64 hr)) (pv 8) (@pe_lx _ _ _ _ pa_0) (nomark _))))) (@pss_cons _ _ _ _ _ (@ps_sk _ _ 4 _ _ _ _ sc_law_plainly.nd rfl (Or.inl rfl) (@pe_cB _ _ _ _ _ _ _ _ _ (call_max2 rfl) (by rfl) B.max PyProof.Rows.boot_max (@pa_c _ _ _ _ _ (pv 4) (@pa_c _ _ _ _ _ (@pe_ix _ _ _ _ _ _ _ ix_list (pv 8) pe_int (fun _ _ => rfl)) pa_0 (by rfl)) (by rfl)) (by rfl) (by rfl) (by decide) (by decide)) (by rfl) (by first | exact .inl rfl | exact .inr rfl))
                      (@pss_one _ _ _ (@ps_sk _ _ 8 _ _ _ _ sc_law_plainly.nd rfl (Or.inl rfl) (@pe_slice _ _ _ _ _ _ _ _ _ _ sl_list (pv 8) (@po_some _ _ _ pe_int) po_none) (by rfl) (by first | exact .inl rfl | exact .inr rfl)))) pss_nil)))))))))))))))
      (@pss_wk _ _ (rowR H nt wd ds n b) _ (@pss_one _ _ _ (@ps_ek _ _ _ _ (@pe_append _ _ _ _ _ _ _ (pv 3) (@pe_tx _ _ _ _ _ (@pa_c _ _ _ _ _ (pv 4) (@pa_c _ _ _ _ _ (pv 5) (@pa_c _ _ _ _ _ (@pe_cB _ _ _ _ _ _ _ _ _ call_len_seq (by rfl) B.len PySem.boot_len (@pa_c _ _ _ _ _ (pv 7) pa_0 (by rfl)) (by rfl) (by rfl) (by decide) (by decide)) (@pa_c _ _ _ _ _ (@pe_cB _ _ _ _ _ _ _ _ _ call_len_seq (by rfl) B.len PySem.boot_len (@pa_c _ _ _ _ _ (pv 8) pa_0 (by rfl)) (by rfl) (by rfl) (by decide) (by decide)) pa_0 (by rfl)) (by rfl)) (by rfl)) (by rfl))) (by rfl) (by rfl) (by rfl)) (by rfl))) ?c1))))) (by intro _; rfl))
    (@pss_one _ _ _ (@ps_ret _ _ _ _ (pv 3)))))))))), ?_⟩
  case c1 =>
    rintro Dd σ H' ⟨i, hi, ⟨pr, pe, pt, pb, rs, v9, v10, v11, rfl, A1, R1⟩, k⟩
    refine ⟨_, rfl, .inl ⟨rfl, _, SqL.of A1.hr⟩, _, rfl, _, rfl, _, rfl, pt, _, rfl, .inl (SqL.of A1.ht), _, rfl, pb, _, rfl, .inl (SqL.of A1.hb), (by show 4 ≤ sizeLine; decide), fun t ht => ?_⟩
    have A2 := A1.new ht (.tup (rowV (nAt nt wd ds (i + 1))))
    have e1 : (((nAt nt wd ds (i + 1)).there.map V.int).length : Int) = ((nAt nt wd ds (i + 1)).there.length : Int) := by rw [List.length_map]
    have e2 : (((nAt nt wd ds (i + 1)).back.map V.int).length : Int) = ((nAt nt wd ds (i + 1)).back.length : Int) := by rw [List.length_map]
    rw [e1, e2]
    refine ⟨pr, _, _, rfl, rfl, A2.hr, sized (by rw [List.length_map, R1.len]; omega), ?_⟩
    have R2 := (R1.tk (Tk.new ht (.tup (rowV (nAt nt wd ds (i + 1)))))).more upd_same
    have A3 := A2.wRows (t := rs ++ [t])
    refine k _ _ ⟨pr, pe, pt, pb, rs ++ [t], v9, v10, v11, rfl, ?_, ?_⟩
    · rw [List.map_append] at A3
      exact A3
    · exact R2.tk (Tk.lst A2.hr _)
  -- the six starts
  refine ⟨(by show 0 ≤ sizeLine; decide), fun pr hpr => ?_⟩
  refine ⟨(by show 0 ≤ sizeLine; decide), fun pe hpe => ?_⟩
  refine ⟨(by show 0 ≤ sizeLine; decide), fun pt hpt => ?_⟩
  refine ⟨(by show 0 ≤ sizeLine; decide), fun pb hpb => ?_⟩
  have s1 : Same H (upd H pr (.lst [])) := same_new hpr _
  have s2 := s1.new hpe (.lst [])
  have s3 := s2.new hpt (.lst [])
  have s4 := s3.new hpb (.lst [])
  have nre : pr ≠ pe := ne_of_none upd_same hpe
  have nrt : pr ≠ pt := ne_of_none (o := .lst []) (by rw [upd_ne nre]; exact upd_same) hpt
  have net : pe ≠ pt := ne_of_none upd_same hpt
  have nrb : pr ≠ pb := ne_of_none (o := .lst []) (by rw [upd_ne nrt, upd_ne nre]; exact upd_same) hpb
  have neb : pe ≠ pb := ne_of_none (o := .lst []) (by rw [upd_ne net]; exact upd_same) hpb
  have ntb : pt ≠ pb := ne_of_none upd_same hpb
  have A0 : PlAt H (upd (upd (upd (upd H pr (.lst [])) pe (.lst [])) pt (.lst [])) pb (.lst [])) N.start pr pe pt pb [] :=
    ⟨s4, hpr, s1.free hpe, s2.free hpt, s3.free hpb, by rw [upd_ne nrb, upd_ne nrt, upd_ne nre]; exact upd_same, by rw [upd_ne neb, upd_ne net]; exact upd_same, by rw [upd_ne ntb]; exact upd_same, upd_same, nre, nrt, nrb, net, neb, ntb⟩
  refine ⟨_, rfl, b, rfl, ⟨_, SqL.of (s4 _ _ hb)⟩, for_list (K := K) (a := b) (xs := as.map V.ref) (fun i σ H' => plSt H nt wd ds n b (nAt nt wd ds i) i σ H')
    ⟨pr, pe, pt, pb, [], none, none, none, rfl, A0, ⟨rfl, fun i hi => absurd hi (Nat.not_lt_zero _)⟩⟩ (fun i σ H' _ ⟨_, _, _, _, _, _, _, _, _, A1, _⟩ => SqL.of (A1.sm _ _ hb)) ?_ ?_⟩
  · clear A0 s1 s2 s3 s4 nre nrt net nrb neb ntb hpr hpe hpt hpb pr pe pt pb
    rintro i x σ H' hi ⟨pr, pe, pt, pb, rs, v9, v10, v11, rfl, A1, R1⟩
    obtain ⟨a, d, rfl, _, hd, ha⟩ := (D.same A1.sm).get hi
    have T := SqT.of (K := K) ha
    have il : i < ds.length := (List.getElem?_eq_some_iff.mp hd).1
    have es := nAt_succ (nt := nt) (wd := wd) hd
    have ll := nAt_len nt wd ds i
    have gd : Good nt wd (nAt nt wd ds i) := (Good.start hw (by omega)).run
    have f0 := gd.f0
    -- the end of a turn
    have fin : ∀ (s' : N) (pe' pt' pb' : Addr) (v10' v11' : Option V) (H2 : Hp) (Dd : Ends), (stepN nt wd (nAt nt wd ds i) d).2 = s' → PlAt H H2 s' pr pe' pt' pb' rs → Tk H' H2 →
        (∀ σ' H'', plSt H nt wd ds n b (nAt nt wd ds (i + 1)) (i + 1) σ' H'' → Dd.nx σ' H'') →
        rowR H nt wd ds n b Dd [some (.ref n), some (.int wd), some (.ref b), some (.ref pr), some (.int s'.first), some (.int s'.came), some (.ref pe'), some (.ref pt'), some (.ref pb'), some (.ref a), v10', v11'] H2 := by
      intro s' pe' pt' pb' v10' v11' H2 Dd e A2 tk k
      have e2 : nAt nt wd ds (i + 1) = s' := es.trans e
      refine ⟨i, il, ⟨pr, pe', pt', pb', rs, some (.ref a), v10', v11', ?_, ?_, R1.tk tk⟩, k⟩
      · rw [e2]
      · rw [e2]; exact A2
    generalize hs : nAt nt wd ds i = s at *
    have st : ∀ H2 : Hp, Same H H2 → SqL K H2 n (notes.map V.str) := fun H2 z => SqL.of (z _ _ hn)
    cases d with
    | tell st0 =>
      refine ⟨_, rfl, a, _, _, _, rfl, rfl, T, rfl, _, rfl, _, rfl, rfl, _, rfl, iteA (by decide +kernel) ?_⟩
      refine ⟨_, rfl, a, _, _, _, rfl, rfl, T, rfl, _, _, rfl, rfl, _, rfl, ?_⟩
      by_cases c1 : 0 ≤ st0
      · refine iteA (decide_eq_true c1) ?_
        refine ⟨_, rfl, a, _, _, _, rfl, rfl, T, rfl, _, rfl, _, _, rfl, rfl, _, rfl, ?_⟩
        by_cases c2 : st0 < wd
        · refine iteA (decide_eq_true c2) ?_
          refine ⟨_, rfl, _, rfl, a, _, _, _, rfl, rfl, T, rfl, _, _, rfl, rfl, ?_⟩
          refine ⟨_, rfl, _, _, rfl, rfl, _, rfl, iteA (decide_eq_true (by omega)) ?_⟩
          refine ⟨_, rfl, _, rfl, n, _, rfl, .inl (st _ A1.sm), _, _, rfl, rfl, _, rfl, ?_⟩
          rw [List.length_map, ← ent]
          by_cases c3 : s.first + st0 < nt
          · refine iteA (decide_eq_true c3) ?_
            refine ⟨_, rfl, .inl ⟨rfl, _, SqL.of A1.ht⟩, _, rfl, pt, _, _, rfl, rfl, A1.ht, sized (by rw [List.length_map]; omega), ?_⟩
            have A2 := A1.wThere (t := s.there ++ [s.first + st0])
            rw [List.map_append] at A2
            exact fin { s with there := s.there ++ [s.first + st0] } pe pt pb _ _ _ _ (by simp only [stepN]; rw [if_pos ⟨c1, c2, c3⟩]) A2 (Tk.lst A1.ht _) fun _ _ z => z
          · refine iteB (decide_eq_false c3) ?_
            refine ⟨_, rfl, rfl, _, rfl, iteB (by decide +kernel) ?_⟩
            refine ⟨_, rfl, rfl, _, rfl, iteB (by decide +kernel) (iteF ?_)⟩
            refine ⟨_, rfl, rfl, _, rfl, iteB (by decide +kernel) (iteF ?_)⟩
            refine ⟨_, rfl, rfl, _, rfl, iteB (by decide +kernel) ?_⟩
            refine ⟨_, rfl, rfl, _, rfl, iteB (by decide +kernel) ?_⟩
            refine ⟨_, rfl, rfl, _, rfl, iteB (by decide +kernel) (iteF ?_)⟩
            refine ⟨_, rfl, rfl, _, rfl, iteB (by decide +kernel) (iteF ?_)⟩
            exact fin s pe pt pb _ _ _ _ (by simp only [stepN]; rw [if_neg (by omega)]) A1 (Tk.refl _) fun _ _ z => z
        · refine iteB (decide_eq_false c2) ?_
          refine ⟨_, rfl, _, _, rfl, rfl, _, rfl, iteB (by decide) (iteF ?_)⟩
          refine ⟨_, rfl, rfl, _, rfl, iteB (by decide +kernel) ?_⟩
          refine ⟨_, rfl, rfl, _, rfl, iteB (by decide +kernel) (iteF ?_)⟩
          refine ⟨_, rfl, rfl, _, rfl, iteB (by decide +kernel) (iteF ?_)⟩
          refine ⟨_, rfl, rfl, _, rfl, iteB (by decide +kernel) ?_⟩
          refine ⟨_, rfl, rfl, _, rfl, iteB (by decide +kernel) ?_⟩
          refine ⟨_, rfl, rfl, _, rfl, iteB (by decide +kernel) (iteF ?_)⟩
          refine ⟨_, rfl, rfl, _, rfl, iteB (by decide +kernel) (iteF ?_)⟩
          exact fin s pe pt pb _ _ _ _ (by simp only [stepN]; rw [if_neg (by omega)]) A1 (Tk.refl _) fun _ _ z => z
      · refine iteB (decide_eq_false c1) (iteF ?_)
        refine ⟨_, rfl, _, _, rfl, rfl, _, rfl, iteB (by decide) (iteF ?_)⟩
        refine ⟨_, rfl, rfl, _, rfl, iteB (by decide +kernel) ?_⟩
        refine ⟨_, rfl, rfl, _, rfl, iteB (by decide +kernel) (iteF ?_)⟩
        refine ⟨_, rfl, rfl, _, rfl, iteB (by decide +kernel) (iteF ?_)⟩
        refine ⟨_, rfl, rfl, _, rfl, iteB (by decide +kernel) ?_⟩
        refine ⟨_, rfl, rfl, _, rfl, iteB (by decide +kernel) ?_⟩
        refine ⟨_, rfl, rfl, _, rfl, iteB (by decide +kernel) (iteF ?_)⟩
        refine ⟨_, rfl, rfl, _, rfl, iteB (by decide +kernel) (iteF ?_)⟩
        exact fin s pe pt pb _ _ _ _ (by simp only [stepN]; rw [if_neg (by omega)]) A1 (Tk.refl _) fun _ _ z => z
    | answer =>
      refine ⟨_, rfl, a, _, _, _, rfl, rfl, T, rfl, _, rfl, _, rfl, rfl, _, rfl, iteB (by decide +kernel) (iteF ?_)⟩
      refine ⟨_, rfl, _, _, rfl, rfl, _, rfl, iteB (by decide) (iteF ?_)⟩
      refine ⟨_, rfl, rfl, _, rfl, iteA (by decide +kernel) ?_⟩
      refine ⟨_, rfl, .inl ⟨rfl, _, SqL.of A1.hb⟩, _, rfl, pb, _, _, rfl, rfl, A1.hb, sized (by rw [List.length_map]; omega), ?_⟩
      have A2 := A1.wBack (t := s.back ++ [s.came])
      rw [List.map_append] at A2
      exact fin { s with back := s.back ++ [s.came] } pe pt pb _ _ _ _ rfl A2 (Tk.lst A1.hb _) fun _ _ z => z
    | twice =>
      refine ⟨_, rfl, a, _, _, _, rfl, rfl, T, rfl, _, rfl, _, rfl, rfl, _, rfl, iteB (by decide +kernel) (iteF ?_)⟩
      refine ⟨_, rfl, _, _, rfl, rfl, _, rfl, iteB (by decide) (iteF ?_)⟩
      refine ⟨_, rfl, rfl, _, rfl, iteB (by decide +kernel) ?_⟩
      refine ⟨_, rfl, rfl, _, rfl, iteA (by decide +kernel) ?_⟩
      refine ⟨_, rfl, (by show 0 ≤ sizeLine; decide), fun t ht => ?_⟩
      have A2 := A1.new ht (.lst [])
      have tk2 := Tk.new ht (.lst [])
      refine ⟨pt, t, s.there, [], rfl, rfl, SqL.of A2.ht, SqL.of upd_same, _, rfl, ?_⟩
      by_cases c : s.there = []
      · refine iteB (by rw [decide_eq_true c]; rfl) ?_
        refine ⟨_, rfl, rfl, _, rfl, iteB (by decide +kernel) (iteF ?_)⟩
        refine ⟨_, rfl, rfl, _, rfl, iteB (by decide +kernel) ?_⟩
        refine ⟨_, rfl, rfl, _, rfl, iteB (by decide +kernel) ?_⟩
        refine ⟨_, rfl, rfl, _, rfl, iteB (by decide +kernel) (iteF ?_)⟩
        refine ⟨_, rfl, rfl, _, rfl, iteB (by decide +kernel) (iteF ?_)⟩
        exact fin s pe pt pb _ _ _ _ (by simp only [stepN, c]) A2 tk2 fun _ _ z => z
      · refine iteA (by rw [decide_eq_false c]; rfl) ?_
        obtain ⟨x, r, hx⟩ : ∃ x r, s.there = x :: r := by
          cases e : s.there with
          | nil => exact absurd e c
          | cons x r => exact ⟨x, r, rfl⟩
        refine ⟨_, rfl, _, rfl, pt, _, rfl, SqL.of A2.ht, fun q1 h1 => ?_⟩
        have A3 := A2.new h1 (.lst (cutV (s.there.map V.int) none (some 1)))
        refine ⟨_, rfl, q1, pt, _, _, rfl, rfl, upd_same, A3.ht, ?_, fun q2 h2 => ?_⟩
        · have := cutV_length (s.there.map V.int) none (some 1)
          rw [List.length_map] at this ⊢
          exact small (by omega)
        have e : cutV (s.there.map V.int) none (some 1) ++ s.there.map V.int = (x :: x :: r).map V.int := by
          rw [hx, List.map_cons, cut1]
          rfl
        have A4 := A3.thereNew (t := x :: x :: r) h2
        rw [← e] at A4
        exact fin { s with there := x :: x :: r } pe q2 pb _ _ _ _ (by simp only [stepN, hx]) A4 ((tk2.trans (Tk.new h1 _)).trans (Tk.new h2 _)) fun _ _ z => z
    | twiceB =>
      refine ⟨_, rfl, a, _, _, _, rfl, rfl, T, rfl, _, rfl, _, rfl, rfl, _, rfl, iteB (by decide +kernel) (iteF ?_)⟩
      refine ⟨_, rfl, _, _, rfl, rfl, _, rfl, iteB (by decide) (iteF ?_)⟩
      refine ⟨_, rfl, rfl, _, rfl, iteB (by decide +kernel) ?_⟩
      refine ⟨_, rfl, rfl, _, rfl, iteB (by decide +kernel) (iteF ?_)⟩
      refine ⟨_, rfl, rfl, _, rfl, iteA (by decide +kernel) ?_⟩
      refine ⟨_, rfl, (by show 0 ≤ sizeLine; decide), fun t ht => ?_⟩
      have A2 := A1.new ht (.lst [])
      have tk2 := Tk.new ht (.lst [])
      refine ⟨pb, t, s.back, [], rfl, rfl, SqL.of A2.hb, SqL.of upd_same, _, rfl, ?_⟩
      by_cases c : s.back = []
      · refine iteB (by rw [decide_eq_true c]; rfl) ?_
        refine ⟨_, rfl, rfl, _, rfl, iteB (by decide +kernel) ?_⟩
        refine ⟨_, rfl, rfl, _, rfl, iteB (by decide +kernel) ?_⟩
        refine ⟨_, rfl, rfl, _, rfl, iteB (by decide +kernel) (iteF ?_)⟩
        refine ⟨_, rfl, rfl, _, rfl, iteB (by decide +kernel) (iteF ?_)⟩
        exact fin s pe pt pb _ _ _ _ (by simp only [stepN, c]) A2 tk2 fun _ _ z => z
      · refine iteA (by rw [decide_eq_false c]; rfl) ?_
        obtain ⟨x, r, hx⟩ : ∃ x r, s.back = x :: r := by
          cases e : s.back with
          | nil => exact absurd e c
          | cons x r => exact ⟨x, r, rfl⟩
        refine ⟨_, rfl, _, rfl, pb, _, rfl, SqL.of A2.hb, fun q1 h1 => ?_⟩
        have A3 := A2.new h1 (.lst (cutV (s.back.map V.int) none (some 1)))
        refine ⟨_, rfl, q1, pb, _, _, rfl, rfl, upd_same, A3.hb, ?_, fun q2 h2 => ?_⟩
        · have := cutV_length (s.back.map V.int) none (some 1)
          rw [List.length_map] at this ⊢
          exact small (by omega)
        have e : cutV (s.back.map V.int) none (some 1) ++ s.back.map V.int = (x :: x :: r).map V.int := by
          rw [hx, List.map_cons, cut1]
          rfl
        have A4 := A3.backNew (t := x :: x :: r) h2
        rw [← e] at A4
        exact fin { s with back := x :: x :: r } pe pt q2 _ _ _ _ (by simp only [stepN, hx]) A4 ((tk2.trans (Tk.new h1 _)).trans (Tk.new h2 _)) fun _ _ z => z
    | miss =>
      refine ⟨_, rfl, a, _, _, _, rfl, rfl, T, rfl, _, rfl, _, rfl, rfl, _, rfl, iteB (by decide +kernel) (iteF ?_)⟩
      refine ⟨_, rfl, _, _, rfl, rfl, _, rfl, iteB (by decide) (iteF ?_)⟩
      refine ⟨_, rfl, rfl, _, rfl, iteB (by decide +kernel) ?_⟩
      refine ⟨_, rfl, rfl, _, rfl, iteB (by decide +kernel) (iteF ?_)⟩
      refine ⟨_, rfl, rfl, _, rfl, iteB (by decide +kernel) (iteF ?_)⟩
      refine ⟨_, rfl, rfl, _, rfl, iteA (by decide +kernel) ?_⟩
      refine ⟨_, rfl, _, rfl, pt, _, rfl, SqL.of A1.ht, fun q1 h1 => ?_⟩
      have A2 := A1.thereNew (t := s.there.drop 1) h1
      have e : cutV (s.there.map V.int) (some 1) none = (s.there.drop 1).map V.int := by rw [cut2, List.map_drop]
      rw [← e] at A2
      exact fin { s with there := s.there.drop 1 } pe q1 pb _ _ _ _ (by
        obtain ⟨f0, c0, ea0, th0, ba0⟩ := s
        cases th0 <;> rfl) A2 (Tk.new h1 _) fun _ _ z => z
    | missB =>
      refine ⟨_, rfl, a, _, _, _, rfl, rfl, T, rfl, _, rfl, _, rfl, rfl, _, rfl, iteB (by decide +kernel) (iteF ?_)⟩
      refine ⟨_, rfl, _, _, rfl, rfl, _, rfl, iteB (by decide) (iteF ?_)⟩
      refine ⟨_, rfl, rfl, _, rfl, iteB (by decide +kernel) ?_⟩
      refine ⟨_, rfl, rfl, _, rfl, iteB (by decide +kernel) (iteF ?_)⟩
      refine ⟨_, rfl, rfl, _, rfl, iteB (by decide +kernel) (iteF ?_)⟩
      refine ⟨_, rfl, rfl, _, rfl, iteB (by decide +kernel) ?_⟩
      refine ⟨_, rfl, rfl, _, rfl, iteA (by decide +kernel) ?_⟩
      refine ⟨_, rfl, _, rfl, pb, _, rfl, SqL.of A1.hb, fun q1 h1 => ?_⟩
      have A2 := A1.backNew (t := s.back.drop 1) h1
      have e : cutV (s.back.map V.int) (some 1) none = (s.back.drop 1).map V.int := by rw [cut2, List.map_drop]
      rw [← e] at A2
      exact fin { s with back := s.back.drop 1 } pe pt q1 _ _ _ _ (by
        obtain ⟨f0, c0, ea0, th0, ba0⟩ := s
        cases ba0 <;> rfl) A2 (Tk.new h1 _) fun _ _ z => z
    | come =>
      refine ⟨_, rfl, a, _, _, _, rfl, rfl, T, rfl, _, rfl, _, rfl, rfl, _, rfl, iteB (by decide +kernel) (iteF ?_)⟩
      refine ⟨_, rfl, _, _, rfl, rfl, _, rfl, iteB (by decide) (iteF ?_)⟩
      refine ⟨_, rfl, rfl, _, rfl, iteB (by decide +kernel) ?_⟩
      refine ⟨_, rfl, rfl, _, rfl, iteB (by decide +kernel) (iteF ?_)⟩
      refine ⟨_, rfl, rfl, _, rfl, iteB (by decide +kernel) (iteF ?_)⟩
      refine ⟨_, rfl, rfl, _, rfl, iteB (by decide +kernel) ?_⟩
      refine ⟨_, rfl, rfl, _, rfl, iteB (by decide +kernel) ?_⟩
      refine ⟨_, rfl, rfl, _, rfl, iteA (by decide +kernel) ?_⟩
      refine ⟨_, rfl, (by show 0 ≤ sizeLine; decide), fun t ht => ?_⟩
      have A2 := A1.new ht (.lst [])
      have tk2 := Tk.new ht (.lst [])
      refine ⟨pt, t, s.there, [], rfl, rfl, SqL.of A2.ht, SqL.of upd_same, _, rfl, ?_⟩
      by_cases c : s.there = []
      · refine iteB (by rw [decide_eq_true c]; rfl) ?_
        refine ⟨_, rfl, rfl, _, rfl, iteB (by decide +kernel) (iteF ?_)⟩
        exact fin s pe pt pb _ _ _ _ (by simp only [stepN, c]) A2 tk2 fun _ _ z => z
      · refine iteA (by rw [decide_eq_false c]; rfl) ?_
        obtain ⟨x, r, hx⟩ : ∃ x r, s.there = x :: r := by
          cases e : s.there with
          | nil => exact absurd e c
          | cons x r => exact ⟨x, r, rfl⟩
        have hmap : s.there.map V.int = V.int x :: r.map V.int := by rw [hx]; rfl
        refine ⟨_, rfl, .inl ⟨rfl, _, SqL.of A2.he⟩, _, rfl, pt, _, _, _, rfl, rfl, SqL.of A2.ht, (by rw [hmap]; exact at_head _ _), pe, _, _, rfl, rfl, A2.he, sized (by rw [List.length_map]; omega), ?_⟩
        have A3 := A2.wEarly (t := s.early ++ [x])
        rw [List.map_append] at A3
        refine ⟨_, rfl, _, rfl, pt, _, rfl, SqL.of A3.ht, fun q1 h1 => ?_⟩
        have A4 := A3.thereNew (t := r) h1
        have e : cutV (s.there.map V.int) (some 1) none = r.map V.int := by rw [cut2, hmap]; rfl
        rw [← e] at A4
        have tk4 := (tk2.trans (Tk.lst A2.he (.lst (s.early.map V.int ++ [x].map V.int)))).trans (Tk.new h1 (.lst (cutV (s.there.map V.int) (some 1) none)))
        refine while_by (fun σ' H'' => H'' = _ ∧ ∃ z : Int, σ' = [some (.ref n), some (.int wd), some (.ref b), some (.ref pr), some (.int s.first), some (.int z), some (.ref pe), some (.ref q1), some (.ref pb), some (.ref a), some (.str "come"), some (.int (-1))] ∧ adv (s.early ++ [x]) z = adv (s.early ++ [x]) s.came)
          (fun (σ' : St) _ => match σ'[5]? with | some (some (V.int z)) => above (s.early ++ [x]) z | _ => 0) ⟨rfl, s.came, rfl, rfl⟩ ?_ ?_
        · rintro σ' H'' ⟨rfl, z, rfl, hz⟩
          have he5 := A4.he
          simp only [] at he5
          refine ⟨_, rfl, _, rfl, pe, _, rfl, .inl (SqL.of he5), rfl, flat_ints _, _, rfl, ?_⟩
          by_cases m : z ∈ s.early ++ [x]
          · refine iteA (show inV (.int z) ((s.early ++ [x]).map V.int) = true by rw [inV_int]; exact decide_eq_true m) ?_
            exact ⟨_, rfl, _, _, rfl, rfl, ⟨rfl, z + 1, rfl, (adv_in m).symm.trans hz⟩, above_lt m⟩
          · refine iteB (show inV (.int z) ((s.early ++ [x]).map V.int) = false by rw [inV_int]; exact decide_eq_false m) ?_
            have ez : z = adv (s.early ++ [x]) s.came := by rw [← hz, adv_out m]
            exact fin { s with there := r, early := s.early ++ [x], came := z } pe q1 pb _ _ _ _ (by simp only [stepN, hx]; rw [ez]) (A4.ints s.first z) tk4 fun _ _ z => z
        · intro σ' H'' Q' Q'' hq h
          obtain ⟨v, e1, u, e2, p', xs', e3, e4, e5, e6, k', e7, q'⟩ := h
          exact ⟨v, e1, u, e2, p', xs', e3, e4, e5, e6, k', e7, hq _ _ q'⟩
    | comeB =>
      refine ⟨_, rfl, a, _, _, _, rfl, rfl, T, rfl, _, rfl, _, rfl, rfl, _, rfl, iteB (by decide +kernel) (iteF ?_)⟩
      refine ⟨_, rfl, _, _, rfl, rfl, _, rfl, iteB (by decide) (iteF ?_)⟩
      refine ⟨_, rfl, rfl, _, rfl, iteB (by decide +kernel) ?_⟩
      refine ⟨_, rfl, rfl, _, rfl, iteB (by decide +kernel) (iteF ?_)⟩
      refine ⟨_, rfl, rfl, _, rfl, iteB (by decide +kernel) (iteF ?_)⟩
      refine ⟨_, rfl, rfl, _, rfl, iteB (by decide +kernel) ?_⟩
      refine ⟨_, rfl, rfl, _, rfl, iteB (by decide +kernel) ?_⟩
      refine ⟨_, rfl, rfl, _, rfl, iteB (by decide +kernel) (iteF ?_)⟩
      refine ⟨_, rfl, rfl, _, rfl, iteA (by decide +kernel) ?_⟩
      refine ⟨_, rfl, (by show 0 ≤ sizeLine; decide), fun t ht => ?_⟩
      have A2 := A1.new ht (.lst [])
      have tk2 := Tk.new ht (.lst [])
      refine ⟨pb, t, s.back, [], rfl, rfl, SqL.of A2.hb, SqL.of upd_same, _, rfl, ?_⟩
      by_cases c : s.back = []
      · refine iteB (by rw [decide_eq_true c]; rfl) ?_
        exact fin s pe pt pb _ _ _ _ (by simp only [stepN, c]) A2 tk2 fun _ _ z => z
      · refine iteA (by rw [decide_eq_false c]; rfl) ?_
        obtain ⟨x, r, hx⟩ : ∃ x r, s.back = x :: r := by
          cases e : s.back with
          | nil => exact absurd e c
          | cons x r => exact ⟨x, r, rfl⟩
        have hmap : s.back.map V.int = V.int x :: r.map V.int := by rw [hx]; rfl
        refine ⟨_, rfl, _, rfl, pb, _, _, _, rfl, rfl, SqL.of A2.hb, (by rw [hmap]; exact at_head _ _), _, _, rfl, ?_⟩
        refine ⟨_, rfl, _, rfl, pb, _, rfl, SqL.of A2.hb, fun q1 h1 => ?_⟩
        have A4 := A2.backNew (t := r) h1
        have e : cutV (s.back.map V.int) (some 1) none = r.map V.int := by rw [cut2, hmap]; rfl
        rw [← e] at A4
        exact fin { s with back := r, first := if x > s.first then x else s.first } pe pt q1 _ _ _ _ (by simp only [stepN, hx]) (A4.ints (if x > s.first then x else s.first) s.came) (tk2.trans (Tk.new h1 _)) fun _ _ z => z
  · rintro σ H' ⟨pr, pe, pt, pb, rs, v9, v10, v11, rfl, A1, R1⟩
    have e : (as.map V.ref).length = ds.length := by rw [List.length_map, D.len]
    rw [e] at R1
    exact ⟨_, rfl, q pr rs H' A1.nr A1.sm A1.hr R1⟩
end
end Fh


set_option Elab.async false
set_option linter.all false
set_option maxRecDepth 100000
set_option maxHeartbeats 4000000
namespace Fh
open PySem L2 Fd
/-! ### the deeds that are made of the cells -/
def wordsV : List V := [.str "tell", .str "come", .str "tell", .str "answer", .str "come", .str "come back", .str "tell", .str "twice", .str "come"] ++ [.str "tell", .str "miss", .str "come back", .str "come", .str "answer", .str "twice back", .str "miss back"]
def WordOk (x : Str) : Prop := x = "tell" ∨ (¬ x = "tell" ∧ ∃ d, dV d = [.str x])
theorem word_at (j : Nat) (h : j < 16) : ∃ x, wordsV[j]? = some (.str x) ∧ WordOk x := by
  have t : WordOk "tell" := .inl rfl
  have c : WordOk "come" := .inr ⟨by decide +kernel, .come, rfl⟩
  have a : WordOk "answer" := .inr ⟨by decide +kernel, .answer, rfl⟩
  have cb : WordOk "come back" := .inr ⟨by decide +kernel, .comeB, rfl⟩
  have tw : WordOk "twice" := .inr ⟨by decide +kernel, .twice, rfl⟩
  have m : WordOk "miss" := .inr ⟨by decide +kernel, .miss, rfl⟩
  have tb : WordOk "twice back" := .inr ⟨by decide +kernel, .twiceB, rfl⟩
  have mb : WordOk "miss back" := .inr ⟨by decide +kernel, .missB, rfl⟩
  match j, h with
  | 0, _ => exact ⟨_, rfl, t⟩
  | 1, _ => exact ⟨_, rfl, c⟩
  | 2, _ => exact ⟨_, rfl, t⟩
  | 3, _ => exact ⟨_, rfl, a⟩
  | 4, _ => exact ⟨_, rfl, c⟩
  | 5, _ => exact ⟨_, rfl, cb⟩
  | 6, _ => exact ⟨_, rfl, t⟩
  | 7, _ => exact ⟨_, rfl, tw⟩
  | 8, _ => exact ⟨_, rfl, c⟩
  | 9, _ => exact ⟨_, rfl, t⟩
  | 10, _ => exact ⟨_, rfl, m⟩
  | 11, _ => exact ⟨_, rfl, cb⟩
  | 12, _ => exact ⟨_, rfl, c⟩
  | 13, _ => exact ⟨_, rfl, a⟩
  | 14, _ => exact ⟨_, rfl, tb⟩
  | 15, _ => exact ⟨_, rfl, mb⟩
  | j + 16, h => omega
theorem DeedsAt.more {H H' : Hp} {as : List Addr} {ds : List Deed} {t : Addr} {d : Deed} (h : DeedsAt H as ds) (k : Tk H H') (ht : H' t = some (.tup (dV d))) : DeedsAt H' (as ++ [t]) (ds ++ [d]) := by
  refine ⟨by rw [List.length_append, List.length_append, h.len]; rfl, fun i e he => ?_⟩
  by_cases c : i < ds.length
  · rw [List.getElem?_append_left c] at he
    obtain ⟨a, h1, h2⟩ := h.has i e he
    exact ⟨a, by rw [List.getElem?_append_left (by rw [h.len]; exact c)]; exact h1, k _ _ h2⟩
  · have c2 : i = ds.length := by
      have := (List.getElem?_eq_some_iff.mp he).1
      rw [List.length_append] at this
      simp only [List.length_cons, List.length_nil] at this
      omega
    subst c2
    rw [List.getElem?_append_right (Nat.le_refl _), Nat.sub_self] at he
    have : d = e := by simpa using he
    subst this
    refine ⟨t, ?_, ht⟩
    rw [← h.len, List.getElem?_append_right (Nat.le_refl _), Nat.sub_self]
    rfl
def dSt (H : Hp) (c : Addr) (wd : Int) (i : Nat) (v4 v5 v6 : Option V) : St → Hp → Prop := fun σ H' => ∃ (pw p : Addr) (as : List Addr) (ds : List Deed),
  σ = [some (.ref c), some (.int wd), some (.ref pw), some (.ref p), v4, v5, v6] ∧ Same H H' ∧ H p = none ∧ H' pw = some (.lst wordsV) ∧ H' p = some (.lst (as.map V.ref)) ∧ pw ≠ p ∧ DeedsAt H' as ds ∧ ds.length = i
def dR (H : Hp) (c : Addr) (wd : Int) (ns : List Int) : TS := fun D σ H' => ∃ (i : Nat) (x : Str) (st : Int), i < ns.length ∧ WordOk x ∧ dSt H c wd i (some (.int i)) (some (.str x)) (some (.int st)) σ H' ∧
  ∀ σ' H'', (∃ v4 v5 v6, dSt H c wd (i + 1) v4 v5 v6 σ' H'') → D.nx σ' H''
theorem four_at (a b c d : Int) (k : Int) : ∃ z : Int, atI [V.int a, V.int b, V.int c, V.int d] (k % 4) = some (.int z) := by
  rcases (by omega : k % 4 = 0 ∨ k % 4 = 1 ∨ k % 4 = 2 ∨ k % 4 = 3) with e | e | e | e <;> rw [e]
  · exact ⟨a, rfl⟩
  · exact ⟨b, rfl⟩
  · exact ⟨c, rfl⟩
  · exact ⟨d, rfl⟩
section
variable {P : Program} {w : World} {K : PySem.W.Frag} {mg : Str → Option Value} {base : Heap} {f : Addr} {fd : FuncData}
theorem sc_law_deeds : FnScope ["_law_cells", "_law_width", "_law_words", "_law_made", "_law_k", "_law_word", "_law_step"] ["_law_cells", "_law_width"] (defScope s_law_deeds) := ⟨rfl, rfl, rfl, by decide +kernel, rfl, by decide +kernel, by decide +kernel⟩
theorem ok_deeds (B : Bt mg) (F : Fun K "_law_deeds" "_law_deeds" s_law_deeds f fd) : FnOk P w K mg base CX0 1 f fd ["_law_cells", "_law_width"] (sp_deeds K) := by
  refine F.ok sc_law_deeds (fun vs H Q E h => ?_) (fun cdv A outer s H vs Q E hr h => ?_)
  · obtain ⟨c, ns, wd, rfl, _⟩ := h
    rfl
  obtain ⟨c, ns, wd, rfl, hS, w1, w2, hl, q⟩ := h
  have cell : ∀ i : Nat, i < ns.length → ∃ z : Int, atI (ns.map V.int) (i : Int) = some (.int z) := fun i hi => ⟨ns[i], atI_nat (by rw [List.getElem?_map, List.getElem?_eq_getElem hi] <;> rfl)⟩
  refine ⟨_, (@pss_cons _ _ _ _ _ (@ps_sk _ _ 2 _ _ _ _ sc_law_deeds.nd rfl (Or.inl rfl) (@pe_lx _ _ _ _ (@pa_c _ _ _ _ _ pe_str (@pa_c _ _ _ _ _ pe_str (@pa_c _ _ _ _ _ pe_str (@pa_c _ _ _ _ _ pe_str (@pa_c _ _ _ _ _ pe_str (@pa_c _ _ _ _ _ pe_str (@pa_c _ _ _ _ _ pe_str (@pa_c _ _ _ _ _ pe_str (@pa_c _ _ _ _ _ pe_str pa_0 (by rfl)) (by rfl)) (by rfl)) (by rfl)) (by rfl)) (by rfl)) (by rfl)) (by rfl)) (by rfl))) (by rfl) (by first | exact .inl rfl | exact .inr rfl))
    (@pss_cons _ _ _ _ _ (@ps_sk _ _ 2 _ _ _ _ sc_law_deeds.nd rfl (Or.inl rfl) (@pe_op _ _ _ _ _ _ _ _ op_cat (pv 2) (@pe_lx _ _ _ _ (@pa_c _ _ _ _ _ pe_str (@pa_c _ _ _ _ _ pe_str (@pa_c _ _ _ _ _ pe_str (@pa_c _ _ _ _ _ pe_str (@pa_c _ _ _ _ _ pe_str (@pa_c _ _ _ _ _ pe_str (@pa_c _ _ _ _ _ pe_str pa_0 (by rfl)) (by rfl)) (by rfl)) (by rfl)) (by rfl)) (by rfl)) (by rfl)))) (by rfl) (by first | exact .inl rfl | exact .inr rfl))
    (@pss_cons _ _ _ _ _ (@ps_sk _ _ 3 _ _ _ _ sc_law_deeds.nd rfl (Or.inl rfl) (@pe_lx _ _ _ _ pa_0) (by rfl) (by first | exact .inl rfl | exact .inr rfl))
    (@pss_cons _ _ _ _ _ (@ps_fk _ _ _ _ _ _ _ _ PassesOwn.never rfl (@pi_r1 _ _ _ _ _ _ (by rfl) B.range (@pa_c _ _ _ _ _ (@pe_cB _ _ _ _ _ _ _ _ _ call_len_seq (by rfl) B.len PySem.boot_len (@pa_c _ _ _ _ _ (pv 0) pa_0 (by rfl)) (by rfl) (by rfl) (by decide) (by decide)) pa_0 (by rfl)) (by rfl)) (pg_name (i := 4) sc_law_deeds.nd rfl (Or.inl rfl))
      (@pss_cons _ _ _ _ _ (@ps_sk _ _ 5 _ _ _ _ sc_law_deeds.nd rfl (Or.inl rfl) (@pe_ix _ _ _ _ _ _ _ ix_list (pv 2) (@pe_op _ _ _ _ _ _ _ _ op_mod (@pe_op _ _ _ _ _ _ _ _ op_add (@pe_ix _ _ _ _ _ _ _ ix_list (pv 0) (pv 4) (fun _ _ => rfl)) (@pe_op _ _ _ _ _ _ _ _ op_mul pe_int (pv 4))) pe_int) (fun _ _ => rfl)) (by rfl) (by first | exact .inl rfl | exact .inr rfl))
      (@pss_cons _ _ _ _ _ (@ps_sk _ _ 6 _ _ _ _ sc_law_deeds.nd rfl (Or.inl rfl) (@pe_op _ _ _ _ _ _ _ _ op_mod (@pe_op _ _ _ _ _ _ _ _ op_add (@pe_op _ _ _ _ _ _ _ _ op_fdiv (@pe_ix _ _ _ _ _ _ _ ix_list (pv 0) (pv 4) (fun _ _ => rfl)) pe_int) (@pe_op _ _ _ _ _ _ _ _ op_fdiv (pv 4) pe_int)) (pv 1)) (by rfl) (by first | exact .inl rfl | exact .inr rfl))
      (@pss_cons _ _ _ _ _ (@ps_if _ _ _ _ _ _ _ _ (@pt_cmpR _ _ _ _ _ _ _ _ op_eq (@pe_op _ _ _ _ _ _ _ _ op_mod (@pe_op _ _ _ _ _ _ _ _ op_fdiv (@pe_ix _ _ _ _ _ _ _ ix_list (pv 0) (pv 4) (fun _ _ => rfl)) pe_int) pe_int) pe_int (nomark _)) (@pss_one _ _ _ (@ps_sk _ _ 6 _ _ _ _ sc_law_deeds.nd rfl (Or.inl rfl) (pv 1) (by rfl) (by first | exact .inl rfl | exact .inr rfl))) pss_nil)
      (@pss_wk _ _ (dR H c wd ns) _ (@pss_cons _ _ _ _ _ (@ps_if _ _ _ _ _ _ _ _ (@pt_cmpR _ _ _ _ _ _ _ _ op_eq (@pe_op _ _ _ _ _ _ _ _ op_mod (@pe_op _ _ _ _ _ _ _ _ op_fdiv (@pe_ix _ _ _ _ _ _ _ ix_list (pv 0) (pv 4) (fun _ _ => rfl)) pe_int) pe_int) pe_int (nomark _)) (@pss_one _ _ _ (@ps_sk _ _ 6 _ _ _ _ sc_law_deeds.nd rfl (Or.inl rfl) (@pe_ix _ _ _ _ _ _ _ ix_list (@pe_lx _ _ _ _ (@pa_c _ _ _ _ _ (@pe_un _ _ _ _ _ _ un_neg pe_int) (@pa_c _ _ _ _ _ (@pe_op _ _ _ _ _ _ _ _ op_pow pe_int pe_int) (@pa_c _ _ _ _ _ (@pe_op _ _ _ _ _ _ _ _ op_sub (@pe_un _ _ _ _ _ _ un_neg pe_int) (@pe_op _ _ _ _ _ _ _ _ op_mod (@pe_op _ _ _ _ _ _ _ _ op_fdiv (@pe_ix _ _ _ _ _ _ _ ix_list (pv 0) (pv 4) (fun _ _ => rfl)) pe_int) (@pe_op _ _ _ _ _ _ _ _ op_pow pe_int pe_int))) (@pa_c _ _ _ _ _ (@pe_op _ _ _ _ _ _ _ _ op_add (@pe_op _ _ _ _ _ _ _ _ op_add (pv 1) pe_int) (pv 4)) pa_0 (by rfl)) (by rfl)) (by rfl)) (by rfl))) (@pe_op _ _ _ _ _ _ _ _ op_mod (pv 4) pe_int) (fun _ _ => rfl)) (by rfl) (by first | exact .inl rfl | exact .inr rfl))) pss_nil)
      (@pss_wk _ _ (dR H c wd ns) _ (@pss_one _ _ _ (@ps_if _ _ _ _ _ _ _ _ (@pt_cmpR _ _ _ _ _ _ _ _ op_eq (pv 5) pe_str (nomark _)) (@pss_one _ _ _ (@ps_ek _ _ _ _ (@pe_append _ _ _ _ _ _ _ (pv 3) (@pe_tx _ _ _ _ _ (@pa_c _ _ _ _ _ (pv 5) (@pa_c _ _ _ _ _ (pv 6) pa_0 (by rfl)) (by rfl))) (by rfl) (by rfl) (by rfl)) (by rfl))) (@pss_one _ _ _ (@ps_ek _ _ _ _ (@pe_append _ _ _ _ _ _ _ (pv 3) (@pe_tx _ _ _ _ _ (@pa_c _ _ _ _ _ (pv 5) pa_0 (by rfl))) (by rfl) (by rfl) (by rfl)) (by rfl))))) ?c9)) ?c8)))) (by intro _; rfl))
    (@pss_one _ _ _ (@ps_ret _ _ _ _ (pv 3))))))), ?_⟩
  case c8 =>
    rintro D σ H' ⟨i, x, st, hi, hx, ⟨pw, p, as, ds, rfl, s1, hp, hpw, hp', np, DA, hd⟩, k⟩
    obtain ⟨z, hz⟩ := cell i hi
    refine ⟨_, rfl, _, rfl, c, _, _, _, rfl, rfl, s1.seq hS, hz, _, _, rfl, rfl, ⟨by decide, by decide⟩, _, _, rfl, rfl, (by show (0 : Int) < 9; decide), rfl, _, rfl, ?_⟩
    refine ite2 (fun _ => ?_) (fun _ => ?_)
    · refine ⟨_, rfl, _, _, rfl, rfl, ⟨by decide, by decide, by decide⟩, _, rfl, _, rfl, _, rfl, c, _, _, _, rfl, rfl, s1.seq hS, hz, _, _, rfl, rfl, ⟨by decide, by decide⟩, _, _, rfl, rfl, ⟨by decide, by decide, by decide⟩, _, _, rfl, rfl, (show (0 : Int) < 10 ^ (60 : Int).toNat by decide +kernel), _, _, rfl, rfl,
        _, rfl, _, _, rfl, rfl, _, rfl, _, _, rfl, rfl, (by show 4 ≤ sizeLine; decide), fun t ht => ?_⟩
      obtain ⟨y, hy⟩ := four_at (-1) (10 ^ (9 : Int).toNat) (-2 - z / 16 % 10 ^ (60 : Int).toNat) (wd + 1 + (i : Int)) (i : Int)
      refine ⟨_, rfl, _, _, rfl, rfl, (by show (0 : Int) < 4; decide), t, _, _, _, rfl, rfl, SqL.of upd_same, hy, ?_⟩
      have tk := Tk.new ht (.lst [V.int (-1), V.int (10 ^ (9 : Int).toNat), V.int (-2 - z / 16 % 10 ^ (60 : Int).toNat), V.int (wd + 1 + (i : Int))])
      exact ⟨i, x, y, hi, hx, ⟨pw, p, as, ds, rfl, s1.new ht _, hp, by rw [upd_ne (ne_of_none hpw ht)]; exact hpw, by rw [upd_ne (ne_of_none hp' ht)]; exact hp', np, ⟨DA.len, fun j d e => let ⟨a, h1, h2⟩ := DA.has j d e; ⟨a, h1, tk _ _ h2⟩⟩, hd⟩, k⟩
    · exact ⟨i, x, st, hi, hx, ⟨pw, p, as, ds, rfl, s1, hp, hpw, hp', np, DA, hd⟩, k⟩
  case c9 =>
    rintro D σ H' ⟨i, x, st, hi, hx, ⟨pw, p, as, ds, rfl, s1, hp, hpw, hp', np, DA, hd⟩, k⟩
    have sz : (as.map V.ref).length < sizeLine := sized (by rw [List.length_map, DA.len]; omega)
    -- a tuple is made and laid at the end
    have fin : ∀ (t : Addr) (d : Deed), H' t = none → D.nx [some (.ref c), some (.int wd), some (.ref pw), some (.ref p), some (.int i), some (.str x), some (.int st)] (upd (upd H' t (.tup (dV d))) p (.lst (as.map V.ref ++ [V.ref t]))) := by
      intro t d ht
      have nt : p ≠ t := ne_of_none hp' ht
      have hp2 : upd H' t (.tup (dV d)) p = some (.lst (as.map V.ref)) := by rw [upd_ne nt]; exact hp'
      refine k _ _ ⟨_, _, _, pw, p, as ++ [t], ds ++ [d], rfl, (s1.new ht _).write hp _, hp, ?_, ?_, np, ?_, by rw [List.length_append, hd]; rfl⟩
      · rw [upd_ne np, upd_ne (ne_of_none hpw ht)]
        exact hpw
      · rw [upd_same, List.map_append]
        rfl
      · refine DA.more ((Tk.new ht _).trans (Tk.lst hp2 _)) ?_
        rw [upd_ne nt.symm, upd_same]
    refine ⟨_, rfl, rfl, _, rfl, ?_⟩
    rcases hx with rfl | ⟨nx, d, hdx⟩
    · refine iteA (by decide +kernel) ?_
      refine ⟨_, rfl, .inl ⟨rfl, _, SqL.of hp'⟩, _, rfl, _, rfl, (by show 2 ≤ sizeLine; decide), fun t ht => ⟨p, _, _, rfl, rfl, (by rw [upd_ne (ne_of_none hp' ht)]; exact hp'), sz, ?_⟩⟩
      exact fin t (.tell st) ht
    · refine iteB (decide_eq_false fun z => nx (by injection z)) ?_
      refine ⟨_, rfl, .inl ⟨rfl, _, SqL.of hp'⟩, _, rfl, (by show 1 ≤ sizeLine; decide), fun t ht => ⟨p, _, _, rfl, rfl, (by rw [upd_ne (ne_of_none hp' ht)]; exact hp'), sz, ?_⟩⟩
      have := fin t d ht
      rw [hdx] at this
      exact this
  refine ⟨(by show 9 ≤ sizeLine; decide), fun p1 h1 => ?_⟩
  refine ⟨_, rfl, (by show 7 ≤ sizeLine; decide), fun p2 h2 => ?_⟩
  have n12 : p1 ≠ p2 := ne_of_none upd_same h2
  refine ⟨p1, p2, _, _, rfl, rfl, (by rw [upd_ne n12]; exact upd_same), upd_same, (by show 9 + 7 ≤ sizeLine; decide), fun pw h3 => ?_⟩
  refine ⟨(by show 0 ≤ sizeLine; decide), fun p h4 => ?_⟩
  have s1 := same_new h1 (.lst [.str "tell", .str "come", .str "tell", .str "answer", .str "come", .str "come back", .str "tell", .str "twice", .str "come"])
  have s2 := s1.new h2 (.lst [.str "tell", .str "miss", .str "come back", .str "come", .str "answer", .str "twice back", .str "miss back"])
  have s3 := s2.new h3 (.lst wordsV)
  have s4 := s3.new h4 (.lst [])
  refine ⟨_, rfl, c, _, rfl, .inl (s4.seq hS), _, rfl, by rw [List.length_map]; omega, by rw [List.length_map]; omega, ?_⟩
  have npw : pw ≠ p := ne_of_none upd_same h4
  refine for_range (fun i σ H' => ∃ v4 v5 v6, dSt H c wd i v4 v5 v6 σ H') ⟨none, none, none, pw, p, [], [], rfl, s4, s3.free h4, by rw [upd_ne npw]; exact upd_same, upd_same, npw, ⟨rfl, fun i d e => by simp at e⟩, rfl⟩ ?_ ?_
  · rintro i σ H' hi ⟨v4, v5, v6, pw, p, as, ds, rfl, t1, hp, hpw, hp', np, DA, hd⟩
    have hin : i < ns.length := by rw [List.length_map] at hi; omega
    obtain ⟨z, hz⟩ := cell i hin
    have e0 : (0 : Int) + (i : Int) = (i : Int) := Int.zero_add _
    rw [e0]
    obtain ⟨j, hj⟩ : ∃ j : Nat, (z + 5 * (i : Int)) % 16 = (j : Int) := ⟨((z + 5 * (i : Int)) % 16).toNat, by omega⟩
    obtain ⟨x, hx, ok⟩ := word_at j (by omega)
    refine ⟨_, rfl, _, rfl, _, rfl, c, _, _, _, rfl, rfl, t1.seq hS, hz, _, rfl, _, _, rfl, rfl, .inl ⟨by decide, by decide⟩, _, _, rfl, rfl, _, _, rfl, rfl, (by show (0 : Int) < 16; decide), pw, _, _, _, rfl, rfl, SqL.of hpw, (show atI wordsV ((z + 5 * (i : Int)) % 16) = some (.str x) by rw [hj]; exact atI_nat hx), ?_⟩
    refine ⟨_, rfl, _, rfl, c, _, _, _, rfl, rfl, t1.seq hS, hz, _, _, rfl, rfl, ⟨by decide, by decide⟩, _, rfl, _, _, rfl, rfl, ⟨by decide, by decide⟩, _, _, rfl, rfl, _, rfl, _, _, rfl, rfl, (by show (0 : Int) < wd; omega), ?_⟩
    refine ⟨_, rfl, _, rfl, c, _, _, _, rfl, rfl, t1.seq hS, hz, _, _, rfl, rfl, ⟨by decide, by decide⟩, _, _, rfl, rfl, (by show (0 : Int) < 9; decide), rfl, _, rfl, ?_⟩
    refine ite2 (fun _ => ?_) (fun _ => ?_)
    · exact ⟨_, rfl, i, x, wd, hin, ok, ⟨pw, p, as, ds, rfl, t1, hp, hpw, hp', np, DA, hd⟩, fun _ _ z => z⟩
    · exact ⟨i, x, _, hin, ok, ⟨pw, p, as, ds, rfl, t1, hp, hpw, hp', np, DA, hd⟩, fun _ _ z => z⟩
  · rintro σ H' ⟨v4, v5, v6, pw, p, as, ds, rfl, t1, hp, hpw, hp', np, DA, hd⟩
    exact ⟨_, rfl, q p as ds H' hp t1 hp' DA (by rw [hd, List.length_map]; omega)⟩
end
end Fh


set_option Elab.async false
set_option linter.all false
set_option maxRecDepth 100000
set_option maxHeartbeats 4000000
namespace Fh
open PySem L2 Fd
/-! ### what the program promises of a day -/
abbrev mAt (notes : List Str) (wd : Int) (ds : List Deed) (i : Nat) : M Str := endM notes wd (M.start Str wd) (ds.take i)
def mRow (m : M Str) : List Int := [m.first, (m.handed.length : Nat), (m.there.length : Nat), (m.back.length : Nat)]
def nRow (s : N) : List Int := [s.first, s.came, (s.there.length : Nat), (s.back.length : Nat)]
theorem rowV_eq (s : N) : rowV s = (nRow s).map V.int := rfl
theorem day_rel {notes : List Str} {wd : Int} (hw : 1 ≤ wd) (ds : List Deed) : Rel notes wd (endN notes.length wd N.start ds) (endM notes wd (M.start Str wd) ds) ∧ Good notes.length wd (endN notes.length wd N.start ds) :=
  ⟨(Rel.start hw).run (Good.start hw (Int.natCast_nonneg _)), (Good.start hw (Int.natCast_nonneg _)).run⟩
theorem row_eq {notes : List Str} {wd : Int} (hw : 1 ≤ wd) (ds : List Deed) : mRow (endM notes wd (M.start Str wd) ds) = nRow (endN notes.length wd N.start ds) := by
  obtain ⟨r, g⟩ := day_rel (notes := notes) hw ds
  unfold mRow nRow
  rw [r.first, r.hlen g]
  have e1 := congrArg List.length r.there
  have e2 := congrArg List.length r.back
  rw [List.length_map, List.length_map] at e1
  rw [List.length_map] at e2
  rw [e1, e2]
/-- what is handed in to a day -/
structure DayIn (H : Hp) (a b : Addr) (wd : Int) (notes : List Str) (as : List Addr) (ds : List Deed) : Prop where
  ha : H a = some (.lst (notes.map V.str))
  hb : H b = some (.lst (as.map V.ref))
  da : DeedsAt H as ds
  w1 : 1 ≤ wd
  w2 : wd ≤ 100
  nl : notes.length ≤ 200
  dl : ds.length ≤ 900
def sp_states : Sp := fun vs H Q _ => ∃ (a b : Addr) (wd : Int) (notes : List Str) (as : List Addr) (ds : List Deed), vs = [.ref a, .int wd, .ref b] ∧ DayIn H a b wd notes as ds ∧
  ∀ (p : Addr) (rs : List Addr) (H' : Hp), H p = none → Same H H' → H' p = some (.lst (rs.map V.ref)) → rs.length = ds.length →
    (∀ i : Nat, i < ds.length → ∃ t, rs[i]? = some t ∧ H' t = some (.tup ((mRow (mAt notes wd ds (i + 1))).map V.int))) → Q (.ref p) H'
def sp_handed_over : Sp := fun vs H Q _ => ∃ (a b : Addr) (wd : Int) (notes : List Str) (as : List Addr) (ds : List Deed), vs = [.ref a, .int wd, .ref b] ∧ DayIn H a b wd notes as ds ∧
  ∀ (p : Addr) (H' : Hp), H p = none → Same H H' → H' p = some (.lst ((endM notes wd (M.start Str wd) ds).handed.map V.str)) → Q (.ref p) H'
def sp_told : Sp := fun vs H Q _ => ∃ (a b : Addr) (wd : Int) (notes : List Str) (as : List Addr) (ds : List Deed), vs = [.ref a, .int wd, .ref b] ∧ DayIn H a b wd notes as ds ∧
  ∀ (p : Addr) (bs : List Bool) (H' : Hp), H p = none → Same H H' → H' p = some (.lst (bs.map V.bl)) → bs.length = ds.length →
    (∀ (i : Nat) (d : Deed), ds[i]? = some d → bs[i]? = some (stepM notes wd (mAt notes wd ds i) d).1) → Q (.ref p) H'
def sp_law (K : PySem.W.Frag) : Sp := fun vs H Q _ => ∃ (a : Addr) (ns : List Int), vs = [.ref a] ∧ SqL K H a (ns.map V.int) ∧ ns.length ≤ 63 ∧ ∀ H', Q (.bl true) H'
theorem ten_at (x : Int) : ∃ z : Int, 1 ≤ z ∧ z ≤ 100 ∧ atI [V.int 1, V.int 2, V.int 3, V.int 2, V.int 4, V.int 1, V.int 3, V.int 9, V.int 17, V.int (1 + x / 10 % 100)] (x % 10) = some (.int z) := by
  rcases (by omega : x % 10 = 0 ∨ x % 10 = 1 ∨ x % 10 = 2 ∨ x % 10 = 3 ∨ x % 10 = 4 ∨ x % 10 = 5 ∨ x % 10 = 6 ∨ x % 10 = 7 ∨ x % 10 = 8 ∨ x % 10 = 9) with e | e | e | e | e | e | e | e | e | e <;> rw [e]
  · exact ⟨1, by decide, by decide, rfl⟩
  · exact ⟨2, by decide, by decide, rfl⟩
  · exact ⟨3, by decide, by decide, rfl⟩
  · exact ⟨2, by decide, by decide, rfl⟩
  · exact ⟨4, by decide, by decide, rfl⟩
  · exact ⟨1, by decide, by decide, rfl⟩
  · exact ⟨3, by decide, by decide, rfl⟩
  · exact ⟨9, by decide, by decide, rfl⟩
  · exact ⟨17, by decide, by decide, rfl⟩
  · exact ⟨1 + x / 10 % 100, by omega, by omega, rfl⟩
theorem cut_map (ns : List Int) (lo hi : Option Int) : ∃ ms : List Int, cutV (ns.map V.int) lo hi = ms.map V.int ∧ ms.length ≤ ns.length := by
  refine ⟨(ns.drop (HT.sIx ns.length 0 lo)).take (HT.sIx ns.length ns.length hi - HT.sIx ns.length 0 lo), ?_, ?_⟩
  · unfold cutV
    rw [List.length_map, List.map_take, List.map_drop]
  · rw [List.length_take, List.length_drop]
    omega
theorem cut_take (notes : List Str) {c : Int} (h : 0 ≤ c) : cutV (notes.map V.str) none (some c) = (notes.take c.toNat).map V.str := by
  unfold cutV
  have e : HT.sIx (notes.map V.str).length (notes.map V.str).length (some c) = min c.toNat notes.length := by
    show (if c < 0 then (c + ((notes.map V.str).length : Int)).toNat else min c.toNat (notes.map V.str).length) = _
    rw [if_neg (by omega), List.length_map]
  rw [e]
  show ((notes.map V.str).drop 0).take (min c.toNat notes.length - 0) = _
  rw [List.drop_zero, Nat.sub_zero, ← List.map_take]
  congr 1
  rw [List.take_eq_take_iff]
  omega
end Fh


set_option Elab.async false
set_option linter.all false
set_option maxRecDepth 100000
set_option maxHeartbeats 4000000
namespace Fh
open PySem L2 Fd
/-! ### the program: marks, hills -/
def itV : Option Str → V
  | none => .non
  | some x => .str x
theorem itV_str (xs : List Str) : xs.map V.str = (xs.map some).map itV := by rw [List.map_map]; rfl
theorem rep_flat (x : V) (k : Nat) : (List.replicate k [x]).flatten = List.replicate k x := by
  induction k with
  | zero => rfl
  | succ k ih => rw [List.replicate_succ, List.replicate_succ, List.flatten_cons, ih]; rfl
def sp_mark_of : Sp := fun vs H Q _ => ∃ n wd : Int, vs = [.int n, .int wd] ∧ 1 ≤ wd ∧ Q (.int (n % (2 * wd))) H
def sp_steps_on : Sp := fun vs H Q _ => ∃ n mk wd : Int, vs = [.int n, .int mk, .int wd] ∧ 1 ≤ wd ∧ Q (.int ((mk - n) % (2 * wd))) H
def sp_heard : Sp := fun vs H Q _ => ∃ n mk wd : Int, vs = [.int n, .int mk, .int wd] ∧ 1 ≤ wd ∧ Q (.int (heardS n mk wd)) H
def sp_laidW : Sp := fun vs H Q _ => ∃ (a b : Addr) (mark : Int) (note : Str) (handed : List Str) (shelf : List (Option Str)), vs = [.ref a, .ref b, .int mark, .str note] ∧ H a = some (.lst (handed.map V.str)) ∧ H b = some (.lst (shelf.map itV)) ∧
  1 ≤ shelf.length ∧ shelf.length ≤ 100 ∧ handed.length ≤ 200 ∧
  ∀ (p q r : Addr) (H' : Hp), Same H H' → H' r = some (.tup [V.ref p, V.ref q]) → H' p = some (.lst ((laidS handed shelf mark note).1.map V.str)) → H' q = some (.lst ((laidS handed shelf mark note).2.map itV)) → H p = none → H q = none → p ≠ q → Q (.ref r) H'
def sp_laid : Sp := fun vs H Q _ => ∃ (a b : Addr) (mark : Int) (note : Str) (handed : List Str) (shelf : List (Option Str)), vs = [.ref a, .ref b, .int mark, .str note] ∧ H a = some (.lst (handed.map V.str)) ∧ H b = some (.lst (shelf.map itV)) ∧
  1 ≤ shelf.length ∧ shelf.length ≤ 100 ∧ handed.length ≤ 200 ∧ shelf[0]? = some none ∧
  ∀ (p q r : Addr) (H' : Hp), Same H H' → H' r = some (.tup [V.ref p, V.ref q]) → H' p = some (.lst ((laidS handed shelf mark note).1.map V.str)) → H' q = some (.lst ((laidS handed shelf mark note).2.map itV)) → H p = none → H q = none → Q (.ref r) H'
/-- how many notes lie on a shelf -/
def cntV (xs : List V) : Nat := (xs.filter fun v => decide (v ≠ V.non)).length
theorem cntV_turn (x : Str) (r : List (Option Str)) : cntV ((r ++ [none]).map itV) + 1 = cntV ((some x :: r).map itV) := by
  unfold cntV
  simp [itV]
theorem seq0 {n : Nat} (h : 0 < n) : seqIndex? 0 n = some 0 := (ixN_seq (by unfold ixN; rw [if_pos (Int.le_refl 0), if_pos (by omega)]; rfl)).1
theorem cntV_le (xs : List V) : cntV xs ≤ xs.length := List.length_filter_le ..
def hpCnt (H : Hp) (q : Addr) : Nat := match H q with
  | some (.lst xs) => cntV xs
  | _ => 0
theorem hpCnt_of {H : Hp} {q : Addr} {xs : List V} (h : H q = some (.lst xs)) : hpCnt H q = cntV xs := by unfold hpCnt; rw [h]
/-- ahead of the loop that hands over -/
def laidR (H : Hp) (handed : List Str) (n : Nat) (t : List Str × List (Option Str)) : TS := fun D σ H' => ∃ (p q : Addr) (v0 v1 v2 v3 v6 v7 : Option V) (sh : List (Option Str)), σ = [v0, v1, v2, v3, some (.ref p), some (.ref q), v6, v7] ∧
  Slots H H' [(p, .lst (handed.map V.str)), (q, .lst (sh.map itV))] ∧ sh.length = n ∧ handS handed sh = t ∧
  ∀ (r : Addr) (H'' : Hp), Slots H H'' [(p, .lst (t.1.map V.str)), (q, .lst (t.2.map itV))] → H'' r = some (.tup [V.ref p, V.ref q]) → D.rt (.ref r) H''
section
variable {P : Program} {w : World} {K : PySem.W.Frag} {mg : Str → Option Value} {base : Heap} {f : Addr} {fd : FuncData}
theorem sc_mark_of : FnScope ["number", "width"] ["number", "width"] (defScope s_mark_of) := ⟨rfl, rfl, rfl, by decide +kernel, rfl, by decide +kernel, by decide +kernel⟩
theorem ok_mark_of (F : Fun K "mark_of" "mark_of" s_mark_of f fd) : FnOk P w K mg base CX0 1 f fd ["number", "width"] sp_mark_of := by
  refine F.ok sc_mark_of (fun vs H Q E h => ?_) (fun cdv A outer s H vs Q E hr h => ?_)
  · obtain ⟨n, wd, rfl, _⟩ := h
    rfl
  obtain ⟨n, wd, rfl, hw, q⟩ := h
  refine ⟨_, (@pss_one _ _ _ (@ps_ret _ _ _ _ (@pe_op _ _ _ _ _ _ _ _ op_mod (pv 0) (@pe_op _ _ _ _ _ _ _ _ op_mul pe_int (pv 1))))), ?_⟩
  exact ⟨_, rfl, _, rfl, _, _, rfl, rfl, .inl ⟨by decide, by decide⟩, _, _, rfl, rfl, (by show (0 : Int) < 2 * wd; omega), q⟩
theorem sc_steps_on : FnScope ["number", "mark", "width"] ["number", "mark", "width"] (defScope s_steps_on) := ⟨rfl, rfl, rfl, by decide +kernel, rfl, by decide +kernel, by decide +kernel⟩
theorem ok_steps_on (F : Fun K "steps_on" "steps_on" s_steps_on f fd) : FnOk P w K mg base CX0 1 f fd ["number", "mark", "width"] sp_steps_on := by
  refine F.ok sc_steps_on (fun vs H Q E h => ?_) (fun cdv A outer s H vs Q E hr h => ?_)
  · obtain ⟨n, mk, wd, rfl, _⟩ := h
    rfl
  obtain ⟨n, mk, wd, rfl, hw, q⟩ := h
  refine ⟨_, (@pss_one _ _ _ (@ps_ret _ _ _ _ (@pe_op _ _ _ _ _ _ _ _ op_mod (@pe_op _ _ _ _ _ _ _ _ op_sub (pv 1) (pv 0)) (@pe_op _ _ _ _ _ _ _ _ op_mul pe_int (pv 2))))), ?_⟩
  exact ⟨_, rfl, _, rfl, _, _, rfl, rfl, _, rfl, _, _, rfl, rfl, .inl ⟨by decide, by decide⟩, _, _, rfl, rfl, (by show (0 : Int) < 2 * wd; omega), q⟩
theorem sc_heard : FnScope ["first", "mark", "width"] ["first", "mark", "width"] (defScope s_heard) := ⟨rfl, rfl, rfl, by decide +kernel, rfl, by decide +kernel, by decide +kernel⟩
theorem ok_heard (D_steps_on : Df P w K mg base "steps_on" 1 ["number", "mark", "width"] sp_steps_on) (F : Fun K "heard" "heard" s_heard f fd) : FnOk P w K mg base CX0 2 f fd ["first", "mark", "width"] sp_heard := by
  refine F.ok sc_heard (fun vs H Q E h => ?_) (fun cdv A outer s H vs Q E hr h => ?_)
  · obtain ⟨n, mk, wd, rfl, _⟩ := h
    rfl
  obtain ⟨n, mk, wd, rfl, hw, q⟩ := h
  refine ⟨_, (@pss_one _ _ _ (@ps_ret _ _ _ _ (@pe_op _ _ _ _ _ _ _ _ op_add (pv 0) (@pe_df _ _ _ _ _ _ _ _ _ _ _ D_steps_on hr (by decide) (by rfl) (@pa_c _ _ _ _ _ (pv 0) (@pa_c _ _ _ _ _ (pv 1) (@pa_c _ _ _ _ _ (pv 2) pa_0 (by rfl)) (by rfl)) (by rfl)) (by rfl) (by rfl) (by decide))))), ?_⟩
  exact ⟨_, rfl, _, rfl, _, rfl, _, rfl, _, _, _, rfl, hw, _, _, rfl, rfl, q⟩
theorem sc_laid : FnScope ["handed", "shelf", "mark", "note", "handed_now", "shelf_now", "width", "steps"] ["handed", "shelf", "mark", "note"] (defScope s_laid) := ⟨rfl, rfl, rfl, by decide +kernel, rfl, by decide +kernel, by decide +kernel⟩
theorem ok_laid (B : Bt mg) (D_steps_on : Df P w K mg base "steps_on" 1 ["number", "mark", "width"] sp_steps_on) (F : Fun K "laid" "laid" s_laid f fd) : FnOk P w K mg base CX0 2 f fd ["handed", "shelf", "mark", "note"] sp_laidW := by
  refine F.ok sc_laid (fun vs H Q E h => ?_) (fun cdv A outer s H vs Q E hr h => ?_)
  · obtain ⟨a, b, mark, note, handed, shelf, rfl, _⟩ := h
    rfl
  obtain ⟨a, b, mark, note, handed, shelf, rfl, ha, hb, s1, s2, hl, k⟩ := h
  have el : (shelf.map itV).length = shelf.length := List.length_map _
  have eh : (handed.map V.str).length = handed.length := List.length_map _
  refine ⟨_, (@pss_cons _ _ _ _ _ (@ps_sk _ _ 4 _ _ _ _ sc_laid.nd rfl (Or.inl rfl) (@pe_cTy _ _ _ _ _ _ _ _ _ call_list_of (by rfl) B.list PyProof.Rows.boot_list (@pa_c _ _ _ _ _ (pv 0) pa_0 (by rfl)) (by rfl) (by rfl) (by decide) (by decide)) (by rfl) (by first | exact .inl rfl | exact .inr rfl))
    (@pss_cons _ _ _ _ _ (@ps_sk _ _ 5 _ _ _ _ sc_laid.nd rfl (Or.inl rfl) (@pe_cTy _ _ _ _ _ _ _ _ _ call_list_of (by rfl) B.list PyProof.Rows.boot_list (@pa_c _ _ _ _ _ (pv 1) pa_0 (by rfl)) (by rfl) (by rfl) (by decide) (by decide)) (by rfl) (by first | exact .inl rfl | exact .inr rfl))
    (@pss_cons _ _ _ _ _ (@ps_sk _ _ 6 _ _ _ _ sc_laid.nd rfl (Or.inl rfl) (@pe_cB _ _ _ _ _ _ _ _ _ call_len_seq (by rfl) B.len PySem.boot_len (@pa_c _ _ _ _ _ (pv 1) pa_0 (by rfl)) (by rfl) (by rfl) (by decide) (by decide)) (by rfl) (by first | exact .inl rfl | exact .inr rfl))
    (@pss_cons _ _ _ _ _ (@ps_sk _ _ 7 _ _ _ _ sc_laid.nd rfl (Or.inl rfl) (@pe_df _ _ _ _ _ _ _ _ _ _ _ D_steps_on hr (by decide) (by rfl) (@pa_c _ _ _ _ _ (@pe_cB _ _ _ _ _ _ _ _ _ call_len_seq (by rfl) B.len PySem.boot_len (@pa_c _ _ _ _ _ (pv 0) pa_0 (by rfl)) (by rfl) (by rfl) (by decide) (by decide)) (@pa_c _ _ _ _ _ (pv 2) (@pa_c _ _ _ _ _ (pv 6) pa_0 (by rfl)) (by rfl)) (by rfl)) (by rfl) (by rfl) (by decide)) (by rfl) (by first | exact .inl rfl | exact .inr rfl))
    (@pss_cons _ _ _ _ _ (@ps_if _ _ _ _ _ _ _ _ (@pt_cmpR _ _ _ _ _ _ _ _ op_lt (pv 7) (pv 6) (nomark _)) (@pss_one _ _ _ (@ps_sub _ _ _ _ _ _ _ _ _ _ (pv 3) (pv 5) (pv 7) set_list (by rfl) (by rfl) (by rfl) (by intro _; rfl))) pss_nil)
    (@pss_wk _ _ (laidR H handed shelf.length (laidS handed shelf mark note)) _ (@pss_cons _ _ _ _ _ (@ps_while _ _ _ _ _ _ PassesOwn.never (@pt_cmpR _ _ _ _ _ _ _ _ op_notN (@pe_ix _ _ _ _ _ _ _ ix_list (pv 5) pe_int (fun _ _ => rfl)) pe_non (nomark _)) (@pss_cons _ _ _ _ _ (@ps_ek _ _ _ _ (@pe_append _ _ _ _ _ _ _ (pv 4) (@pe_popAt _ _ _ _ _ _ _ (pv 5) pe_int (by rfl) (by rfl) (by rfl)) (by rfl) (by rfl) (by rfl)) (by rfl))
      (@pss_one _ _ _ (@ps_ek _ _ _ _ (@pe_append _ _ _ _ _ _ _ (pv 5) pe_non (by rfl) (by rfl) (by rfl)) (by rfl)))))
    (@pss_one _ _ _ (@ps_ret _ _ _ _ (@pe_tx _ _ _ _ _ (@pa_c _ _ _ _ _ (pv 4) (@pa_c _ _ _ _ _ (pv 5) pa_0 (by rfl)) (by rfl)))))) ?c1)))))), ?_⟩
  case c1 =>
    rintro D σ H' ⟨p, q, v0, v1, v2, v3, v6, v7, sh, rfl, S, hn, ht, k⟩
    have c0 := cntV_le (sh.map itV)
    rw [List.length_map] at c0
    refine while_by (fun σ' H'' => σ' = [v0, v1, v2, v3, some (.ref p), some (.ref q), v6, v7] ∧ ∃ (h : List Str) (sh : List (Option Str)), Slots H H'' [(p, .lst (h.map V.str)), (q, .lst (sh.map itV))] ∧ sh.length = shelf.length ∧ handS h sh = laidS handed shelf mark note ∧ h.length + cntV (sh.map itV) ≤ 300)
      (fun _ H'' => hpCnt H'' q) ⟨rfl, handed, sh, S, hn, ht, by omega⟩ ?_ ?_
    · clear S hn ht c0 sh
      rintro σ' H'' ⟨rfl, h, sh, S, hn, ht, hc⟩
      have hp := S.get (i := 0) rfl
      have hq := S.get (i := 1) rfl
      cases sh with
      | nil => exact absurd hn (by simp only [List.length_nil]; omega)
      | cons x r =>
        refine ⟨_, rfl, q, _, _, _, rfl, rfl, SqL.of hq, at_head _ _, rfl, _, rfl, ?_⟩
        cases x with
        | none =>
          refine iteB (by decide +kernel) ?_
          refine ⟨_, rfl, _, rfl, (by show 2 ≤ sizeLine; decide), fun z hz => ?_⟩
          have et : laidS handed shelf mark note = (h, none :: r) := ht.symm
          refine k z _ ?_ upd_same
          rw [et]
          exact S.new hz _
        | some x =>
          refine iteA (show (!decide (V.str x = V.non)) = true by rw [decide_eq_false (by intro z; cases z)]; rfl) ?_
          refine ⟨_, rfl, .inl ⟨rfl, _, SqL.of hp⟩, _, rfl, .inl ⟨rfl, _, SqL.of hq⟩, q, _, 0, 0, V.str x, rfl, rfl, hq, by decide, by decide, seq0 (by simp), rfl, ?_⟩
          have S1 := S.set (i := 1) rfl (.lst (r.map itV))
          refine ⟨p, _, _, rfl, rfl, S1.get (i := 0) rfl, sized (by rw [List.length_map]; omega), ?_⟩
          have S2 := S1.set (i := 0) rfl (.lst (h.map V.str ++ [V.str x]))
          refine ⟨_, rfl, .inl ⟨rfl, _, SqL.of (S2.get (i := 1) rfl)⟩, q, _, _, rfl, rfl, S2.get (i := 1) rfl, sized (by rw [List.length_map]; rw [List.length_cons] at hn; omega), ?_⟩
          have S3 := S2.set (i := 1) rfl (.lst (r.map itV ++ [V.non]))
          have hq3 := S3.get (i := 1) rfl
          have ct := cntV_turn x r
          have e1 : h.map V.str ++ [V.str x] = (h ++ [x]).map V.str := by rw [List.map_append]; rfl
          have e2 : r.map itV ++ [V.non] = (r ++ [none]).map itV := by rw [List.map_append]; rfl
          refine ⟨⟨rfl, h ++ [x], r ++ [none], ?_, ?_, ?_, ?_⟩, ?_⟩
          · rw [← e1, ← e2]
            exact S3
          · rw [List.length_append, ← hn]
            rfl
          · rw [← handS_turn]
            exact ht
          · rw [List.length_append]
            show h.length + 1 + _ ≤ 300
            omega
          · show hpCnt _ q < hpCnt H'' q
            rw [hpCnt_of hq]
            refine Nat.lt_of_le_of_lt (Nat.le_of_eq (hpCnt_of hq3)) ?_
            rw [e2]
            omega
    · intro σ' H'' Q' Q'' hq h
      obtain ⟨v, e1, p', xs', i', v', e2, e3, e4, e5, e6, k', e7, q'⟩ := h
      exact ⟨v, e1, p', xs', i', v', e2, e3, e4, e5, e6, k', e7, hq _ _ q'⟩
  -- copies of both
  refine ⟨_, rfl, a, _, rfl, .inl (SqL.of ha), fun p hp => ?_⟩
  have S1 := (Slots.nil (Same.refl H)).add hp (.lst (handed.map V.str))
  refine ⟨_, rfl, b, _, rfl, .inl (SqL.of (S1.sm _ _ hb)), fun q hq => ?_⟩
  have S2 := S1.add hq (.lst (shelf.map itV))
  refine ⟨_, rfl, b, _, rfl, .inl (SqL.of (S2.sm _ _ hb)), ?_⟩
  refine ⟨_, rfl, a, _, rfl, .inl (SqL.of (S2.sm _ _ ha)), _, rfl, _, rfl, _, _, _, rfl, by rw [el]; omega, ?_⟩
  rw [el, eh]
  have fin : ∀ (r : Addr) (H'' : Hp), Slots H H'' [(p, .lst ((laidS handed shelf mark note).1.map V.str)), (q, .lst ((laidS handed shelf mark note).2.map itV))] → H'' r = some (.tup [V.ref p, V.ref q]) → Q (.ref r) H'' :=
    fun r H'' S hr => k p q r H'' S.sm hr (S.get (i := 0) rfl) (S.get (i := 1) rfl) (S.free (i := 0) rfl) (S.free (i := 1) rfl) (S.ne (i := 0) (j := 1) rfl rfl (by decide))
  refine ⟨_, rfl, _, rfl, _, _, rfl, rfl, _, rfl, ?_⟩
  refine ite2 (fun c => ?_) (fun c => ?_)
  · have c' : (mark - (handed.length : Int)) % (2 * (shelf.length : Int)) < (shelf.length : Int) := of_decide_eq_true c
    have c0 : 0 ≤ (mark - (handed.length : Int)) % (2 * (shelf.length : Int)) := Int.emod_nonneg _ (by omega)
    refine ⟨_, rfl, _, rfl, _, rfl, q, _, _, ((mark - (handed.length : Int)) % (2 * (shelf.length : Int))).toNat, rfl, rfl, S2.get (i := 1) rfl, ?_, ?_⟩
    · unfold ixN
      rw [if_pos c0, el, if_pos c']
    refine ⟨p, q, _, _, _, _, _, _, shelf.set ((mark - (handed.length : Int)) % (2 * (shelf.length : Int))).toNat (some note), rfl, ?_, by rw [List.length_set], ?_, fin⟩
    · have S3 := S2.set (i := 1) rfl (.lst ((shelf.map itV).set ((mark - (handed.length : Int)) % (2 * (shelf.length : Int))).toNat (V.str note)))
      rw [show (shelf.map itV).set ((mark - (handed.length : Int)) % (2 * (shelf.length : Int))).toNat (V.str note) = (shelf.set ((mark - (handed.length : Int)) % (2 * (shelf.length : Int))).toNat (some note)).map itV by rw [List.map_set]; rfl] at S3 ⊢
      exact S3
    · unfold laidS putS
      rw [if_pos c']
  · have c' : ¬ (mark - (handed.length : Int)) % (2 * (shelf.length : Int)) < (shelf.length : Int) := of_decide_eq_false (Bool.eq_false_iff.mpr c)
    refine ⟨p, q, _, _, _, _, _, _, shelf, rfl, S2, rfl, ?_, fin⟩
    unfold laidS putS
    rw [if_neg c']
theorem ok_laid2 {k : Nat} (h : FnOk P w K mg base CX0 k f fd ["handed", "shelf", "mark", "note"] sp_laidW) : FnOk P w K mg base CX0 k f fd ["handed", "shelf", "mark", "note"] sp_laid :=
  h.imp fun vs H Q E ⟨a, b, mark, note, handed, shelf, e, ha, hb, s1, s2, hl, _, k⟩ => ⟨a, b, mark, note, handed, shelf, e, ha, hb, s1, s2, hl, fun p q r H' z1 z2 z3 z4 z5 z6 _ => k p q r H' z1 z2 z3 z4 z5 z6⟩
end
end Fh


set_option Elab.async false
set_option linter.all false
set_option maxRecDepth 100000
set_option maxHeartbeats 4000000
namespace Fh
open PySem L2 Fd
/-! ### the program: a line -/
structure LineAt (CL : Addr) (H : Hp) (l u : Addr) (xs : List V) : Prop where
  ins : ∃ dx, H l = some (.ins CL dx [("underway", .ref u)])
  lst : H u = some (.lst xs)
structure TxL (K : PySem.W.Frag) (CL : Addr) : Prop where
  cl : Cls K CL
  nU : NoAttr K CL "underway"
def sp_line_init (CL : Addr) : Sp := fun vs H Q _ => ∃ x dx : Addr, vs = [.ref x] ∧ H x = some (.ins CL dx []) ∧ ∀ u, H u = none → Q .non (upd (upd H u (.lst [])) x (.ins CL dx [("underway", .ref u)]))
def sp_how_many (CL : Addr) : Sp := fun vs H Q _ => ∃ (l u : Addr) (xs : List V), vs = [.ref l] ∧ LineAt CL H l u xs ∧ Q (.int (xs.length : Nat)) H
def sp_is_empty (CL : Addr) : Sp := fun vs H Q _ => ∃ (l u : Addr) (xs : List V), vs = [.ref l] ∧ LineAt CL H l u xs ∧ Q (.bl xs.isEmpty) H
def sp_give (CL : Addr) : Sp := fun vs H Q _ => ∃ (l u : Addr) (xs : List V) (v : V), vs = [.ref l, v] ∧ LineAt CL H l u xs ∧ xs.length ≤ 1000 ∧ Q .non (upd H u (.lst (xs ++ [v])))
def sp_take (CL : Addr) : Sp := fun vs H Q _ => ∃ (l u : Addr) (v : V) (r : List V), vs = [.ref l] ∧ LineAt CL H l u (v :: r) ∧ Q v (upd H u (.lst r))
def sp_double (CL : Addr) : Sp := fun vs H Q _ => ∃ (l u : Addr) (v : V) (r : List V), vs = [.ref l] ∧ LineAt CL H l u (v :: r) ∧ r.length ≤ 990 ∧ Q .non (upd H u (.lst (v :: v :: r)))
def lostQ (Q : VK) (H : Hp) (u : Addr) : List V → Prop
  | [] => Q (.bl false) H
  | _ :: r => Q (.bl true) (upd H u (.lst r))
def doubleQ (Q : VK) (H : Hp) (u : Addr) : List V → Prop
  | [] => Q (.bl false) H
  | v :: r => Q (.bl true) (upd H u (.lst (v :: v :: r)))
def sp_lost_on (CL : Addr) : Sp := fun vs H Q _ => ∃ (l u : Addr) (xs : List V), vs = [.ref l] ∧ LineAt CL H l u xs ∧ lostQ Q H u xs
def sp_doubled_on (CL : Addr) : Sp := fun vs H Q _ => ∃ (l u : Addr) (xs : List V), vs = [.ref l] ∧ LineAt CL H l u xs ∧ xs.length ≤ 990 ∧ doubleQ Q H u xs
section
variable {P : Program} {w : World} {K : PySem.W.Frag} {mg : Str → Option Value} {base : Heap} {f CL : Addr} {fd : FuncData}
theorem sc_Line__init : FnScope ["self"] ["self"] (defScope s_Line__init) := ⟨rfl, rfl, rfl, by decide +kernel, rfl, by decide +kernel, by decide +kernel⟩
theorem ok_line_init (T : TxL K CL) (F : Fun K "__init__" "Line.__init__" s_Line__init f fd) : FnOk P w K mg base CX0 1 f fd ["self"] (sp_line_init CL) := by
  refine F.ok sc_Line__init (fun vs H Q E h => ?_) (fun cdv A outer s H vs Q E hr h => ?_)
  · obtain ⟨x, dx, rfl, _⟩ := h
    rfl
  obtain ⟨x, dx, rfl, hx, k⟩ := h
  refine ⟨_, (@pss_one _ _ _ (@ps_fld _ _ _ _ _ _ _ _ (pv 0) (@pe_lx _ _ _ _ pa_0) (by rfl))), ?_⟩
  refine ⟨(by show 0 ≤ sizeLine; decide), fun u hu => ?_⟩
  exact ⟨_, rfl, x, CL, dx, [], rfl, (by rw [upd_ne (ne_of_none hx hu)]; exact hx), T.cl, T.nU, (by decide), k u hu⟩
theorem sc_Line_how_many : FnScope ["self"] ["self"] (defScope s_Line_how_many) := ⟨rfl, rfl, rfl, by decide +kernel, rfl, by decide +kernel, by decide +kernel⟩
theorem ok_how_many (B : Bt mg) (T : TxL K CL) (F : Fun K "how_many" "Line.how_many" s_Line_how_many f fd) : FnOk P w K mg base CX0 1 f fd ["self"] (sp_how_many CL) := by
  refine F.ok sc_Line_how_many (fun vs H Q E h => ?_) (fun cdv A outer s H vs Q E hr h => ?_)
  · obtain ⟨l, u, xs, rfl, _⟩ := h
    rfl
  obtain ⟨l, u, xs, rfl, L, q⟩ := h
  obtain ⟨dx, hl⟩ := L.ins
  refine ⟨_, (@pss_one _ _ _ (@ps_ret _ _ _ _ (@pe_cB _ _ _ _ _ _ _ _ _ call_len_seq (by rfl) B.len PySem.boot_len (@pa_c _ _ _ _ _ (@pe_fld _ _ _ _ _ (pv 0) (by rfl)) pa_0 (by rfl)) (by rfl) (by rfl) (by decide) (by decide)))), ?_⟩
  exact ⟨_, rfl, l, CL, dx, _, _, rfl, hl, T.cl, T.nU, rfl, u, _, rfl, .inl (SqL.of L.lst), q⟩
theorem sc_Line_is_empty : FnScope ["self"] ["self"] (defScope s_Line_is_empty) := ⟨rfl, rfl, rfl, by decide +kernel, rfl, by decide +kernel, by decide +kernel⟩
theorem ok_is_empty (B : Bt mg) (T : TxL K CL) (F : Fun K "is_empty" "Line.is_empty" s_Line_is_empty f fd) : FnOk P w K mg base CX0 1 f fd ["self"] (sp_is_empty CL) := by
  refine F.ok sc_Line_is_empty (fun vs H Q E h => ?_) (fun cdv A outer s H vs Q E hr h => ?_)
  · obtain ⟨l, u, xs, rfl, _⟩ := h
    rfl
  obtain ⟨l, u, xs, rfl, L, q⟩ := h
  obtain ⟨dx, hl⟩ := L.ins
  refine ⟨_, (@pss_one _ _ _ (@ps_ret _ _ _ _ (@pe_cmpR _ _ _ _ _ _ _ _ op_eq (@pe_cB _ _ _ _ _ _ _ _ _ call_len_seq (by rfl) B.len PySem.boot_len (@pa_c _ _ _ _ _ (@pe_fld _ _ _ _ _ (pv 0) (by rfl)) pa_0 (by rfl)) (by rfl) (by rfl) (by decide) (by decide)) pe_int (nomark _)))), ?_⟩
  refine ⟨_, rfl, l, CL, dx, _, _, rfl, hl, T.cl, T.nU, rfl, u, _, rfl, .inl (SqL.of L.lst), rfl, ?_⟩
  have e : decide (V.int ((xs.length : Nat) : Int) = V.int 0) = xs.isEmpty := by
    cases xs with
    | nil => rfl
    | cons x r => exact decide_eq_false (by intro z; injection z with z; rw [List.length_cons] at z; omega)
  rw [e]
  exact q
theorem sc_Line_give : FnScope ["self", "thing"] ["self", "thing"] (defScope s_Line_give) := ⟨rfl, rfl, rfl, by decide +kernel, rfl, by decide +kernel, by decide +kernel⟩
theorem ok_give (T : TxL K CL) (F : Fun K "give" "Line.give" s_Line_give f fd) : FnOk P w K mg base CX0 1 f fd ["self", "thing"] (sp_give CL) := by
  refine F.ok sc_Line_give (fun vs H Q E h => ?_) (fun cdv A outer s H vs Q E hr h => ?_)
  · obtain ⟨l, u, xs, v, rfl, _⟩ := h
    rfl
  obtain ⟨l, u, xs, v, rfl, L, hz, q⟩ := h
  obtain ⟨dx, hl⟩ := L.ins
  refine ⟨_, (@pss_one _ _ _ (@ps_ek _ _ _ _ (@pe_append _ _ _ _ _ _ _ (@pe_fld _ _ _ _ _ (pv 0) (by rfl)) (pv 1) (by rfl) (by rfl) (by rfl)) (by rfl))), ?_⟩
  exact ⟨_, rfl, l, CL, dx, _, _, rfl, hl, T.cl, T.nU, rfl, .inl ⟨rfl, _, SqL.of L.lst⟩, _, rfl, u, _, _, rfl, rfl, L.lst, sized (by omega), q⟩
theorem sc_Line_take_foremost : FnScope ["self"] ["self"] (defScope s_Line_take_foremost) := ⟨rfl, rfl, rfl, by decide +kernel, rfl, by decide +kernel, by decide +kernel⟩
theorem ok_take (T : TxL K CL) (F : Fun K "take_foremost" "Line.take_foremost" s_Line_take_foremost f fd) : FnOk P w K mg base CX0 1 f fd ["self"] (sp_take CL) := by
  refine F.ok sc_Line_take_foremost (fun vs H Q E h => ?_) (fun cdv A outer s H vs Q E hr h => ?_)
  · obtain ⟨l, u, v, r, rfl, _⟩ := h
    rfl
  obtain ⟨l, u, v, r, rfl, L, q⟩ := h
  obtain ⟨dx, hl⟩ := L.ins
  refine ⟨_, (@pss_one _ _ _ (@ps_ret _ _ _ _ (@pe_popAt _ _ _ _ _ _ _ (@pe_fld _ _ _ _ _ (pv 0) (by rfl)) pe_int (by rfl) (by rfl) (by rfl)))), ?_⟩
  exact ⟨_, rfl, l, CL, dx, _, _, rfl, hl, T.cl, T.nU, rfl, .inl ⟨rfl, _, SqL.of L.lst⟩, u, _, 0, 0, v, rfl, rfl, L.lst, by decide, by decide, seq0 (by simp), rfl, q⟩
theorem sc_Line_double_foremost : FnScope ["self"] ["self"] (defScope s_Line_double_foremost) := ⟨rfl, rfl, rfl, by decide +kernel, rfl, by decide +kernel, by decide +kernel⟩
theorem ok_double (T : TxL K CL) (F : Fun K "double_foremost" "Line.double_foremost" s_Line_double_foremost f fd) : FnOk P w K mg base CX0 1 f fd ["self"] (sp_double CL) := by
  refine F.ok sc_Line_double_foremost (fun vs H Q E h => ?_) (fun cdv A outer s H vs Q E hr h => ?_)
  · obtain ⟨l, u, v, r, rfl, _⟩ := h
    rfl
  obtain ⟨l, u, v, r, rfl, L, hz, q⟩ := h
  obtain ⟨dx, hl⟩ := L.ins
  refine ⟨_, (@pss_one _ _ _ (@ps_ek _ _ _ _ (@pe_insert _ _ _ _ _ _ _ _ _ (@pe_fld _ _ _ _ _ (pv 0) (by rfl)) pe_int (@pe_ix _ _ _ _ _ _ _ ix_list (@pe_fld _ _ _ _ _ (pv 0) (by rfl)) pe_int (fun _ _ => rfl)) (by rfl) (by rfl) (by rfl) (by rfl)) (by rfl))), ?_⟩
  exact ⟨_, rfl, l, CL, dx, _, _, rfl, hl, T.cl, T.nU, rfl, .inl ⟨rfl, _, SqL.of L.lst⟩, _, rfl, l, CL, dx, _, _, rfl, hl, T.cl, T.nU, rfl, u, _, _, _, rfl, rfl, SqL.of L.lst, at_head _ _, u, _, 1, v, rfl, rfl, L.lst, by decide, by decide, (by rw [List.length_cons]; show 1 ≤ _; omega), sized (by rw [List.length_cons]; omega), q⟩
theorem sc_lost_on : FnScope ["line"] ["line"] (defScope s_lost_on) := ⟨rfl, rfl, rfl, by decide +kernel, rfl, by decide +kernel, by decide +kernel⟩
theorem ok_lost_on (M_is_empty : Mt P w K mg base CL "is_empty" 1 ["self"] (sp_is_empty CL)) (M_take_foremost : Mt P w K mg base CL "take_foremost" 1 ["self"] (sp_take CL)) (F : Fun K "lost_on" "lost_on" s_lost_on f fd) : FnOk P w K mg base CX0 2 f fd ["line"] (sp_lost_on CL) := by
  refine F.ok sc_lost_on (fun vs H Q E h => ?_) (fun cdv A outer s H vs Q E hr h => ?_)
  · obtain ⟨l, u, xs, rfl, _⟩ := h
    rfl
  obtain ⟨l, u, xs, rfl, L, q⟩ := h
  obtain ⟨dx, hl⟩ := L.ins
  refine ⟨_, (@pss_cons _ _ _ _ _ (@ps_if _ _ _ _ _ _ _ _ (@pt_vk _ _ _ (@pe_mt0 _ _ _ _ _ _ _ _ _ _ _ _ (pv 0) M_is_empty hr (by decide) (by rfl)) (by intro _; rfl)) (@pss_one _ _ _ (@ps_ret _ _ _ _ pe_bl)) pss_nil)
    (@pss_cons _ _ _ _ _ (@ps_ek _ _ _ _ (@pe_mt0 _ _ _ _ _ _ _ _ _ _ _ _ (pv 0) M_take_foremost hr (by decide) (by rfl)) (by rfl))
    (@pss_one _ _ _ (@ps_ret _ _ _ _ pe_bl)))), ?_⟩
  refine ⟨_, rfl, l, dx, _, rfl, hl, rfl, l, u, xs, rfl, L, _, rfl, ?_⟩
  cases xs with
  | nil => exact iteA rfl q
  | cons v r => exact iteB rfl ⟨_, rfl, l, dx, _, rfl, hl, rfl, l, u, v, r, rfl, L, q⟩
theorem sc_doubled_on : FnScope ["line"] ["line"] (defScope s_doubled_on) := ⟨rfl, rfl, rfl, by decide +kernel, rfl, by decide +kernel, by decide +kernel⟩
theorem ok_doubled_on (M_is_empty : Mt P w K mg base CL "is_empty" 1 ["self"] (sp_is_empty CL)) (M_double_foremost : Mt P w K mg base CL "double_foremost" 1 ["self"] (sp_double CL)) (F : Fun K "doubled_on" "doubled_on" s_doubled_on f fd) : FnOk P w K mg base CX0 2 f fd ["line"] (sp_doubled_on CL) := by
  refine F.ok sc_doubled_on (fun vs H Q E h => ?_) (fun cdv A outer s H vs Q E hr h => ?_)
  · obtain ⟨l, u, xs, rfl, _⟩ := h
    rfl
  obtain ⟨l, u, xs, rfl, L, hz, q⟩ := h
  obtain ⟨dx, hl⟩ := L.ins
  refine ⟨_, (@pss_cons _ _ _ _ _ (@ps_if _ _ _ _ _ _ _ _ (@pt_vk _ _ _ (@pe_mt0 _ _ _ _ _ _ _ _ _ _ _ _ (pv 0) M_is_empty hr (by decide) (by rfl)) (by intro _; rfl)) (@pss_one _ _ _ (@ps_ret _ _ _ _ pe_bl)) pss_nil)
    (@pss_cons _ _ _ _ _ (@ps_ek _ _ _ _ (@pe_mt0 _ _ _ _ _ _ _ _ _ _ _ _ (pv 0) M_double_foremost hr (by decide) (by rfl)) (by rfl))
    (@pss_one _ _ _ (@ps_ret _ _ _ _ pe_bl)))), ?_⟩
  refine ⟨_, rfl, l, dx, _, rfl, hl, rfl, l, u, xs, rfl, L, _, rfl, ?_⟩
  cases xs with
  | nil => exact iteA rfl q
  | cons v r => exact iteB rfl ⟨_, rfl, l, dx, _, rfl, hl, rfl, l, u, v, r, rfl, L, (by rw [List.length_cons] at hz; omega), q⟩
end
end Fh


set_option Elab.async false
set_option linter.all false
set_option maxRecDepth 100000
set_option maxHeartbeats 4000000
namespace Fh
open PySem L2 Fd
/-! ### the program: a day -/
def dayF (a : Addr) (wd f : Int) (hd sh lt lb : Addr) : List (Str × V) := [("notes", .ref a), ("width", .int wd), ("first", .int f), ("handed", .ref hd), ("shelf", .ref sh), ("there", .ref lt), ("back", .ref lb)]
abbrev lineF (u : Addr) : List (Str × V) := [("underway", .ref u)]
structure TxD (K : PySem.W.Frag) (CD : Addr) : Prop where
  cl : Cls K CD
  nN : NoAttr K CD "notes"
  nW : NoAttr K CD "width"
  nF : NoAttr K CD "first"
  nH : NoAttr K CD "handed"
  nS : NoAttr K CD "shelf"
  nT : NoAttr K CD "there"
  nB : NoAttr K CD "back"
/-- a message on the heap -/
def MsgAt (H : Hp) (p : Addr) (y : Int × Str) : Prop := H p = some (.tup [.int y.1, .str y.2])
abbrev daySlots (CD CL d dx a : Addr) (wd : Int) (m : M Str) (hd sh lt lb ut ub dxt dxb : Addr) (ms : List Addr) : List (Addr × HO) :=
  [(d, .ins CD dx (dayF a wd m.first hd sh lt lb)), (hd, .lst (m.handed.map V.str)), (sh, .lst (m.shelf.map itV)), (lt, .ins CL dxt (lineF ut)), (ut, .lst (ms.map V.ref)), (lb, .ins CL dxb (lineF ub)), (ub, .lst (m.back.map V.int))]
/-- the day at d: all that it is made of stands apart from what was there ahead -/
def DyAt (CD CL : Addr) (H0 H : Hp) (d a : Addr) (wd : Int) (m : M Str) : Prop := ∃ (dx hd sh lt lb ut ub dxt dxb : Addr) (ms : List Addr), Slots H0 H (daySlots CD CL d dx a wd m hd sh lt lb ut ub dxt dxb ms) ∧ PySem.Paired (MsgAt H) ms m.there
structure MOk (wd : Int) (m : M Str) : Prop where
  w1 : 1 ≤ wd
  w2 : wd ≤ 100
  f0 : 0 ≤ m.first
  sl : (m.shelf.length : Int) = wd
  hl : m.handed.length ≤ 200
  tl : m.there.length ≤ 900
  bl : m.back.length ≤ 900
theorem msgs_tk {H H' : Hp} {ms : List Addr} {th : List (Int × Str)} (t : Tk H H') (h : PySem.Paired (MsgAt H) ms th) : PySem.Paired (MsgAt H') ms th := Paired.mapP h fun p y e => t _ _ e
theorem DyAt.sm {CD CL d a : Addr} {H0 H : Hp} {wd : Int} {m : M Str} (h : DyAt CD CL H0 H d a wd m) : Same H0 H := let ⟨_, _, _, _, _, _, _, _, _, _, S, _⟩ := h; S.sm
/-- a new thing beside the day -/
theorem DyAt.fresh {CD CL d a t : Addr} {H0 H : Hp} {wd : Int} {m : M Str} (h : DyAt CD CL H0 H d a wd m) (ht : H t = none) (o : HO) : DyAt CD CL (upd H0 t o) (upd H t o) d a wd m := by
  obtain ⟨dx, hd, sh, lt, lb, ut, ub, dxt, dxb, ms, S, R⟩ := h
  exact ⟨dx, hd, sh, lt, lb, ut, ub, dxt, dxb, ms, S.bothNew ht o, msgs_tk (Tk.new ht o) R⟩
/-- a list beside the day is written -/
theorem DyAt.write {CD CL d a t : Addr} {H0 H : Hp} {wd : Int} {m : M Str} {xs : List V} (h : DyAt CD CL H0 H d a wd m) (ht : H0 t = some (.lst xs)) (o : HO) : DyAt CD CL (upd H0 t o) (upd H t o) d a wd m := by
  obtain ⟨dx, hd, sh, lt, lb, ut, ub, dxt, dxb, ms, S, R⟩ := h
  exact ⟨dx, hd, sh, lt, lb, ut, ub, dxt, dxb, ms, S.bothSet ht o, msgs_tk (Tk.lst (S.sm _ _ ht) o) R⟩
theorem Tk.ins {H : Hp} {p C dx : Addr} {fs : List (Str × V)} (h : H p = some (.ins C dx fs)) (o : HO) : Tk H (upd H p o) := fun b ys e => by rw [upd_ne (ne_of e h (by intro z; cases z))]; exact e
/-- what a deed asks of the day -/
def DayCall (CD CL : Addr) (H : Hp) (Q : VK) (d : Addr) (dd : Deed) : Prop := ∃ (H0 : Hp) (a : Addr) (wd : Int) (m : M Str) (notes : List Str), DyAt CD CL H0 H d a wd m ∧ H0 a = some (.lst (notes.map V.str)) ∧ MOk wd m ∧
  ∀ H', DyAt CD CL H0 H' d a wd (stepM notes wd m dd).2 → Q (.bl (stepM notes wd m dd).1) H'
def sp_day_init (CD CL : Addr) : Sp := fun vs H Q _ => ∃ (H0 : Hp) (x dx a : Addr) (wd : Int), vs = [.ref x, .ref a, .int wd] ∧ H0 x = none ∧ H0 dx = none ∧ dx ≠ x ∧ H = upd (upd H0 dx (.own x)) x (.ins CD dx []) ∧ 1 ≤ wd ∧ wd ≤ 100 ∧
  ∀ H', DyAt CD CL H0 H' x a wd (M.start Str wd) → Q .non H'
def sp_begun (CD CL CN : Addr) : Sp := fun vs H Q E => ∃ (a : Addr) (wd : Int), vs = [.ref a, .int wd] ∧ wd ≤ 100 ∧ (1 ≤ wd → ∀ (x : Addr) (H' : Hp), DyAt CD CL H H' x a wd (M.start Str wd) → Q (.ref x) H') ∧ (wd < 1 → E (.ref CN) none H)
def sp_tell (CD CL : Addr) : Sp := fun vs H Q _ => ∃ (d : Addr) (st : Int), vs = [.ref d, .int st] ∧ DayCall CD CL H Q d (.tell st)
def sp_deed (CD CL : Addr) (dd : Deed) : Sp := fun vs H Q _ => ∃ d : Addr, vs = [.ref d] ∧ DayCall CD CL H Q d dd
def sp_done (CD CL : Addr) : Sp := fun vs H Q _ => ∃ (d p : Addr) (dd : Deed), vs = [.ref d, .ref p] ∧ H p = some (.tup (dV dd)) ∧ DayCall CD CL H Q d dd
def sp_state (CD CL : Addr) : Sp := fun vs H Q _ => ∃ (H0 : Hp) (d a : Addr) (wd : Int) (m : M Str), vs = [.ref d] ∧ DyAt CD CL H0 H d a wd m ∧ ∀ t, H t = none → Q (.ref t) (upd H t (.tup ((mRow m).map V.int)))
section
variable {P : Program} {w : World} {K : PySem.W.Frag} {mg : Str → Option Value} {base : Heap} {f CD CL CN : Addr} {fd : FuncData}
theorem sc_Day__init : FnScope ["self", "notes", "width"] ["self", "notes", "width"] (defScope s_Day__init) := ⟨rfl, rfl, rfl, by decide +kernel, rfl, by decide +kernel, by decide +kernel⟩
theorem ok_day_init (T : TxD K CD) (C_Line : Mc P w K mg base "Line" CL 1 ["self"] (sp_line_init CL)) (F : Fun K "__init__" "Day.__init__" s_Day__init f fd) : FnOk P w K mg base CX0 3 f fd ["self", "notes", "width"] (sp_day_init CD CL) := by
  refine F.ok sc_Day__init (fun vs H Q E h => ?_) (fun cdv A outer s H vs Q E hr h => ?_)
  · obtain ⟨H0, x, dx, a, wd, rfl, _⟩ := h
    rfl
  obtain ⟨H0, x, dx, a, wd, rfl, hx, hdx, ne, rfl, w1, w2, k⟩ := h
  have S0 := ((Slots.nil (Same.refl H0)).new hdx (.own x)).add (q := x) (by rw [upd_ne (Ne.symm ne)]; exact hx) (.ins CD dx [])
  generalize upd (upd H0 dx (.own x)) x (.ins CD dx []) = H at S0 ⊢
  refine ⟨_, (@pss_cons _ _ _ _ _ (@ps_fld _ _ _ _ _ _ _ _ (pv 0) (pv 1) (by rfl))
    (@pss_cons _ _ _ _ _ (@ps_fld _ _ _ _ _ _ _ _ (pv 0) (pv 2) (by rfl))
    (@pss_cons _ _ _ _ _ (@ps_fld _ _ _ _ _ _ _ _ (pv 0) pe_int (by rfl))
    (@pss_cons _ _ _ _ _ (@ps_fld _ _ _ _ _ _ _ _ (pv 0) (@pe_lx _ _ _ _ pa_0) (by rfl))
    (@pss_cons _ _ _ _ _ (@ps_fld _ _ _ _ _ _ _ _ (pv 0) (@pe_op _ _ _ _ _ _ _ _ op_rep (@pe_lx _ _ _ _ (@pa_c _ _ _ _ _ pe_non pa_0 (by rfl))) (pv 2)) (by rfl))
    (@pss_cons _ _ _ _ _ (@ps_fld _ _ _ _ _ _ _ _ (pv 0) (@pe_mc0 _ _ _ _ _ _ _ _ _ C_Line hr (by decide) (by rfl) (by decide)) (by rfl))
    (@pss_one _ _ _ (@ps_fld _ _ _ _ _ _ _ _ (pv 0) (@pe_mc0 _ _ _ _ _ _ _ _ _ C_Line hr (by decide) (by rfl) (by decide)) (by rfl))))))))), ?_⟩
  refine ⟨_, rfl, _, rfl, x, CD, dx, _, rfl, S0.get (i := 0) rfl, T.cl, T.nN, by simp, ?_⟩
  have S1 := S0.set (i := 0) rfl (.ins CD dx [("notes", .ref a)])
  refine ⟨_, rfl, _, rfl, x, CD, dx, _, rfl, S1.get (i := 0) rfl, T.cl, T.nW, by simp, ?_⟩
  have S2 := S1.set (i := 0) rfl (.ins CD dx [("notes", .ref a), ("width", .int wd)])
  refine ⟨_, rfl, x, CD, dx, _, rfl, S2.get (i := 0) rfl, T.cl, T.nF, by simp, ?_⟩
  have S3 := S2.set (i := 0) rfl (.ins CD dx [("notes", .ref a), ("width", .int wd), ("first", .int 0)])
  refine ⟨(by show 0 ≤ sizeLine; decide), fun hd hhd => ?_⟩
  have S4 := S3.add hhd (.lst [])
  refine ⟨_, rfl, x, CD, dx, _, rfl, S4.get (i := 0) rfl, T.cl, T.nH, by simp, ?_⟩
  have S5 := S4.set (i := 0) rfl (.ins CD dx [("notes", .ref a), ("width", .int wd), ("first", .int 0), ("handed", .ref hd)])
  refine ⟨(by show 1 ≤ sizeLine; decide), fun t0 ht0 => ?_⟩
  have S6 := S5.new ht0 (.lst [V.non])
  refine ⟨_, rfl, t0, wd, _, rfl, rfl, upd_same, by omega, by omega, ?_, fun sh hsh => ?_⟩
  · show 1 * wd.toNat ≤ sizeLine
    exact small (by omega)
  have S7 := S6.add hsh (.lst (List.replicate wd.toNat [V.non]).flatten)
  refine ⟨_, rfl, x, CD, dx, _, rfl, S7.get (i := 0) rfl, T.cl, T.nS, by simp, ?_⟩
  have S8 := S7.set (i := 0) rfl (.ins CD dx [("notes", .ref a), ("width", .int wd), ("first", .int 0), ("handed", .ref hd), ("shelf", .ref sh)])
  refine fun lt dxt hlt hdxt net => ⟨lt, dxt, rfl, upd_same, fun ut hut => ⟨rfl, ?_⟩⟩
  have S9 := ((S8.new hdxt (.own lt)).add (q := lt) (by rw [upd_ne (Ne.symm net)]; exact hlt) (.ins CL dxt [])).add hut (.lst [])
  have S10 := S9.set (i := 3) rfl (.ins CL dxt (lineF ut))
  refine ⟨_, rfl, x, CD, dx, _, rfl, S10.get (i := 0) rfl, T.cl, T.nT, by simp, ?_⟩
  have S11 := S10.set (i := 0) rfl (.ins CD dx [("notes", .ref a), ("width", .int wd), ("first", .int 0), ("handed", .ref hd), ("shelf", .ref sh), ("there", .ref lt)])
  refine fun lb dxb hlb hdxb neb => ⟨lb, dxb, rfl, upd_same, fun ub hub => ⟨rfl, ?_⟩⟩
  have S12 := ((S11.new hdxb (.own lb)).add (q := lb) (by rw [upd_ne (Ne.symm neb)]; exact hlb) (.ins CL dxb [])).add hub (.lst [])
  have S13 := S12.set (i := 5) rfl (.ins CL dxb (lineF ub))
  refine ⟨_, rfl, x, CD, dx, _, rfl, S13.get (i := 0) rfl, T.cl, T.nB, by simp, ?_⟩
  have S14 := S13.set (i := 0) rfl (.ins CD dx (dayF a wd 0 hd sh lt lb))
  refine k _ ⟨dx, hd, sh, lt, lb, ut, ub, dxt, dxb, [], ?_, .nil⟩
  have es : (List.replicate wd.toNat [V.non]).flatten = (M.start Str wd).shelf.map itV := by
    rw [rep_flat]
    show _ = (List.replicate wd.toNat none).map itV
    rw [List.map_replicate]
    rfl
  unfold daySlots
  rw [← es]
  exact S14
theorem sc_begun : FnScope ["notes", "width"] ["notes", "width"] (defScope s_begun) := ⟨rfl, rfl, rfl, by decide +kernel, rfl, by decide +kernel, by decide +kernel⟩
theorem ok_begun (q : PySem.W.excIn K CN veMro "ValueError.__new__" = true) (hm : mg "NoWidth" = some (.ref CN)) (C_Day : Mc P w K mg base "Day" CD 3 ["self", "notes", "width"] (sp_day_init CD CL)) (F : Fun K "begun" "begun" s_begun f fd) :
    FnOk P w K mg base (CX1 P w) 5 f fd ["notes", "width"] (sp_begun CD CL CN) := by
  refine F.okX sc_begun (fun vs H Q E h => ?_) (fun cdv A outer s H vs Q E hr h => ?_)
  · obtain ⟨a, wd, rfl, _⟩ := h
    rfl
  obtain ⟨a, wd, rfl, w2, k1, k2⟩ := h
  refine ⟨_, (@pss_cons _ _ _ _ _ (@ps_if _ _ _ _ _ _ _ _ (@pt_cmpR _ _ _ _ _ _ _ _ op_lt (pv 1) pe_int (nomark _)) (@pss_one _ _ _ (ps_raise q hm hr.hd (by rfl) (@pa_c _ _ _ _ _ pe_str pa_0 (by rfl)) (by rfl) (by rfl) (by decide))) pss_nil)
    (@pss_one _ _ _ (@ps_ret _ _ _ _ (@pe_mc _ _ _ _ _ _ _ _ _ _ _ _ C_Day hr (by decide) (by rfl) (@pa_c _ _ _ _ _ (pv 0) (@pa_c _ _ _ _ _ (pv 1) pa_0 (by rfl)) (by rfl)) (by rfl) (by rfl) (by decide))))), ?_⟩
  refine ⟨_, rfl, _, _, rfl, rfl, _, rfl, ?_⟩
  refine ite2 (fun c => ?_) (fun c => ?_)
  · have c' : wd < 1 := of_decide_eq_true c
    exact ⟨by decide, k2 c'⟩
  · have c' : ¬ wd < 1 := of_decide_eq_false (Bool.eq_false_iff.mpr c)
    exact ⟨_, rfl, _, rfl, fun x dx hx hdx ne => ⟨H, x, dx, a, wd, rfl, hx, hdx, ne, rfl, by omega, w2, fun H' D => ⟨rfl, k1 (by omega) x H' D⟩⟩⟩
theorem sc_tell : FnScope ["day", "step", "number"] ["day", "step"] (defScope s_tell) := ⟨rfl, rfl, rfl, by decide +kernel, rfl, by decide +kernel, by decide +kernel⟩
theorem ok_tell (B : Bt mg) (T : TxD K CD) (D_mark_of : Df P w K mg base "mark_of" 1 ["number", "width"] sp_mark_of) (M_give : Mt P w K mg base CL "give" 1 ["self", "thing"] (sp_give CL)) (F : Fun K "tell" "tell" s_tell f fd) :
    FnOk P w K mg base CX0 2 f fd ["day", "step"] (sp_tell CD CL) := by
  refine F.ok sc_tell (fun vs H Q E h => ?_) (fun cdv A outer s H vs Q E hr h => ?_)
  · obtain ⟨d, st, rfl, _⟩ := h
    rfl
  obtain ⟨d, st, rfl, H0, a, wd, m, notes, ⟨dx, hd, sh, lt, lb, ut, ub, dxt, dxb, ms, S, R⟩, ha, O, k⟩ := h
  have hD := S.get (i := 0) rfl
  have hLt := S.get (i := 3) rfl
  have hUt := S.get (i := 4) rfl
  have el := PySem.Paired.length R
  have tl := O.tl
  have f0 := O.f0
  have en : (notes.map V.str).length = notes.length := List.length_map _
  refine ⟨_, (@pss_cons _ _ _ _ _ (@ps_sk _ _ 2 _ _ _ _ sc_tell.nd rfl (Or.inl rfl) (@pe_op _ _ _ _ _ _ _ _ op_add (@pe_fld _ _ _ _ _ (pv 0) (by rfl)) (pv 1)) (by rfl) (by first | exact .inl rfl | exact .inr rfl))
    (@pss_cons _ _ _ _ _ (@ps_if _ _ _ _ _ _ _ _ (@PW.pt _ _ _ (@pw_or _ _ _ _ _ _ _ (@pt_cmpR _ _ _ _ _ _ _ _ op_lt (pv 1) pe_int (nomark _)) (@pw_or _ _ _ _ _ _ _ (@pt_cmpR _ _ _ _ _ _ _ _ op_ge (pv 1) (@pe_fld _ _ _ _ _ (pv 0) (by rfl)) (nomark _)) (@pw_or1 _ _ _ _ (@pt_cmpR _ _ _ _ _ _ _ _ op_ge (pv 2) (@pe_cB _ _ _ _ _ _ _ _ _ call_len_seq (by rfl) B.len PySem.boot_len (@pa_c _ _ _ _ _ (@pe_fld _ _ _ _ _ (pv 0) (by rfl)) pa_0 (by rfl)) (by rfl) (by rfl) (by decide) (by decide)) (nomark _)))))) (@pss_one _ _ _ (@ps_ret _ _ _ _ pe_bl)) pss_nil)
    (@pss_cons _ _ _ _ _ (@ps_ek _ _ _ _ (@pe_mt _ _ _ _ _ _ _ _ _ _ _ _ _ _ _ (@pe_fld _ _ _ _ _ (pv 0) (by rfl)) M_give hr (by decide) (@pa_c _ _ _ _ _ (@pe_tx _ _ _ _ _ (@pa_c _ _ _ _ _ (@pe_df _ _ _ _ _ _ _ _ _ _ _ D_mark_of hr (by decide) (by rfl) (@pa_c _ _ _ _ _ (pv 2) (@pa_c _ _ _ _ _ (@pe_fld _ _ _ _ _ (pv 0) (by rfl)) pa_0 (by rfl)) (by rfl)) (by rfl) (by rfl) (by decide)) (@pa_c _ _ _ _ _ (@pe_ix _ _ _ _ _ _ _ ix_list (@pe_fld _ _ _ _ _ (pv 0) (by rfl)) (pv 2) (fun _ _ => rfl)) pa_0 (by rfl)) (by rfl))) pa_0 (by rfl)) (by rfl) (by rfl) (by rfl)) (by rfl))
    (@pss_one _ _ _ (@ps_ret _ _ _ _ pe_bl))))), ?_⟩
  refine ⟨_, rfl, d, CD, dx, _, _, rfl, hD, T.cl, T.nF, rfl, _, rfl, _, _, rfl, rfl, ?_⟩
  have no : ¬ (0 ≤ st ∧ st < wd ∧ m.first + st < (notes.length : Int)) → Q (.bl false) H := fun n => by
    have e : stepM notes wd m (.tell st) = (false, m) := by simp only [stepM]; rw [if_neg n]
    rw [e] at k
    exact k H ⟨dx, hd, sh, lt, lb, ut, ub, dxt, dxb, ms, S, R⟩
  refine ⟨_, rfl, _, _, rfl, rfl, _, rfl, ?_⟩
  by_cases c1 : st < 0
  · exact iteA (decide_eq_true c1) (iteT (no (by omega)))
  refine iteB (decide_eq_false c1) ?_
  refine ⟨_, rfl, _, rfl, d, CD, dx, _, _, rfl, hD, T.cl, T.nW, rfl, _, _, rfl, rfl, _, rfl, ?_⟩
  by_cases c2 : wd ≤ st
  · exact iteA (decide_eq_true c2) (iteT (no (by omega)))
  refine iteB (decide_eq_false c2) ?_
  refine ⟨_, rfl, _, rfl, d, CD, dx, _, _, rfl, hD, T.cl, T.nN, rfl, a, _, rfl, .inl (SqL.of (S.sm _ _ ha)), _, _, rfl, rfl, _, rfl, ?_⟩
  rw [en]
  by_cases c3 : (notes.length : Int) ≤ m.first + st
  · exact iteA (decide_eq_true c3) (no (by omega))
  refine iteB (decide_eq_false c3) ?_
  have hn : (m.first + st).toNat < notes.length := by omega
  have e : stepM notes wd m (.tell st) = (true, { m with there := m.there ++ [((m.first + st) % (2 * wd), notes[(m.first + st).toNat])] }) := by
    simp only [stepM]
    rw [if_pos ⟨by omega, by omega, by omega⟩, List.getElem?_eq_getElem hn]
  rw [e] at k
  refine ⟨_, rfl, d, CD, dx, _, _, rfl, hD, T.cl, T.nT, rfl, lt, dxt, _, rfl, hLt, rfl, ?_⟩
  refine ⟨_, rfl, _, rfl, d, CD, dx, _, _, rfl, hD, T.cl, T.nW, rfl, _, _, rfl, O.w1, ?_⟩
  refine ⟨_, rfl, d, CD, dx, _, _, rfl, hD, T.cl, T.nN, rfl, _, rfl, a, _, m.first + st, .str notes[(m.first + st).toNat], rfl, rfl, SqL.of (S.sm _ _ ha), ?_, (by show 2 ≤ sizeLine; decide), fun t ht => ?_⟩
  · have := atI_nat (xs := notes.map V.str) (j := (m.first + st).toNat) (v := .str notes[(m.first + st).toNat]) (by rw [List.getElem?_map, List.getElem?_eq_getElem hn] <;> rfl)
    rw [Int.toNat_of_nonneg (by omega)] at this
    exact this
  have S1 := S.new ht (.tup [.int ((m.first + st) % (2 * wd)), .str notes[(m.first + st).toNat]])
  refine ⟨lt, ut, _, _, rfl, ⟨⟨dxt, S1.get (i := 3) rfl⟩, S1.get (i := 4) rfl⟩, by rw [List.length_map]; omega, ?_⟩
  have S2 := S1.set (i := 4) rfl (.lst (ms.map V.ref ++ [V.ref t]))
  have R2 := (msgs_tk ((Tk.new ht (.tup [.int ((m.first + st) % (2 * wd)), .str notes[(m.first + st).toNat]])).trans (Tk.lst (S1.get (i := 4) rfl) (.lst (ms.map V.ref ++ [V.ref t])))) R).snoc (a := t) (b := ((m.first + st) % (2 * wd), notes[(m.first + st).toNat]))
    (show _ = _ by rw [upd_ne (ne_of upd_same (S1.get (i := 4) rfl) (by intro z; cases z))]; exact upd_same)
  refine k _ ⟨dx, hd, sh, lt, lb, ut, ub, dxt, dxb, ms ++ [t], ?_, R2⟩
  rw [show ms.map V.ref ++ [V.ref t] = (ms ++ [t]).map V.ref by rw [List.map_append]; rfl] at S2 ⊢
  exact S2
end
end Fh


set_option Elab.async false
set_option linter.all false
set_option maxRecDepth 100000
set_option maxHeartbeats 4000000
namespace Fh
open PySem L2 Fd
section
variable {P : Program} {w : World} {K : PySem.W.Frag} {mg : Str → Option Value} {base : Heap} {f CD CL CN : Addr} {fd : FuncData}
theorem sc_answer : FnScope ["day"] ["day"] (defScope s_answer) := ⟨rfl, rfl, rfl, by decide +kernel, rfl, by decide +kernel, by decide +kernel⟩
theorem ok_answer (B : Bt mg) (T : TxD K CD) (D_mark_of : Df P w K mg base "mark_of" 1 ["number", "width"] sp_mark_of) (M_give : Mt P w K mg base CL "give" 1 ["self", "thing"] (sp_give CL)) (F : Fun K "answer" "answer" s_answer f fd) :
    FnOk P w K mg base CX0 2 f fd ["day"] (sp_deed CD CL .answer) := by
  refine F.ok sc_answer (fun vs H Q E h => ?_) (fun cdv A outer s H vs Q E hr h => ?_)
  · obtain ⟨d, rfl, _⟩ := h
    rfl
  obtain ⟨d, rfl, H0, a, wd, m, notes, ⟨dx, hd, sh, lt, lb, ut, ub, dxt, dxb, ms, S, R⟩, ha, O, k⟩ := h
  have hD := S.get (i := 0) rfl
  have hH := S.get (i := 1) rfl
  have hLb := S.get (i := 5) rfl
  have hUb := S.get (i := 6) rfl
  have bl := O.bl
  have eh : (m.handed.map V.str).length = m.handed.length := List.length_map _
  refine ⟨_, (@pss_cons _ _ _ _ _ (@ps_ek _ _ _ _ (@pe_mt _ _ _ _ _ _ _ _ _ _ _ _ _ _ _ (@pe_fld _ _ _ _ _ (pv 0) (by rfl)) M_give hr (by decide) (@pa_c _ _ _ _ _ (@pe_df _ _ _ _ _ _ _ _ _ _ _ D_mark_of hr (by decide) (by rfl) (@pa_c _ _ _ _ _ (@pe_cB _ _ _ _ _ _ _ _ _ call_len_seq (by rfl) B.len PySem.boot_len (@pa_c _ _ _ _ _ (@pe_fld _ _ _ _ _ (pv 0) (by rfl)) pa_0 (by rfl)) (by rfl) (by rfl) (by decide) (by decide)) (@pa_c _ _ _ _ _ (@pe_fld _ _ _ _ _ (pv 0) (by rfl)) pa_0 (by rfl)) (by rfl)) (by rfl) (by rfl) (by decide)) pa_0 (by rfl)) (by rfl) (by rfl) (by rfl)) (by rfl))
    (@pss_one _ _ _ (@ps_ret _ _ _ _ pe_bl))), ?_⟩
  refine ⟨_, rfl, d, CD, dx, _, _, rfl, hD, T.cl, T.nB, rfl, lb, dxb, _, rfl, hLb, rfl, ?_⟩
  refine ⟨_, rfl, d, CD, dx, _, _, rfl, hD, T.cl, T.nH, rfl, hd, _, rfl, .inl (SqL.of hH), ?_⟩
  refine ⟨_, rfl, d, CD, dx, _, _, rfl, hD, T.cl, T.nW, rfl, _, _, rfl, O.w1, ?_⟩
  refine ⟨lb, ub, _, _, rfl, ⟨⟨dxb, hLb⟩, hUb⟩, by rw [List.length_map]; omega, ?_⟩
  rw [eh]
  have S2 := S.set (i := 6) rfl (.lst (m.back.map V.int ++ [V.int ((m.handed.length : Int) % (2 * wd))]))
  have R2 := msgs_tk (Tk.lst hUb (.lst (m.back.map V.int ++ [V.int ((m.handed.length : Int) % (2 * wd))]))) R
  refine k _ ⟨dx, hd, sh, lt, lb, ut, ub, dxt, dxb, ms, ?_, R2⟩
  rw [show m.back.map V.int ++ [V.int ((m.handed.length : Int) % (2 * wd))] = (m.back ++ [(m.handed.length : Int) % (2 * wd)]).map V.int by rw [List.map_append]; rfl] at S2 ⊢
  exact S2
theorem sc_come_back : FnScope ["day"] ["day"] (defScope s_come_back) := ⟨rfl, rfl, rfl, by decide +kernel, rfl, by decide +kernel, by decide +kernel⟩
theorem ok_come_back (T : TxD K CD) (D_heard : Df P w K mg base "heard" 2 ["first", "mark", "width"] sp_heard) (M_is_empty : Mt P w K mg base CL "is_empty" 1 ["self"] (sp_is_empty CL)) (M_take_foremost : Mt P w K mg base CL "take_foremost" 1 ["self"] (sp_take CL)) (F : Fun K "come_back" "come_back" s_come_back f fd) :
    FnOk P w K mg base CX0 3 f fd ["day"] (sp_deed CD CL .comeB) := by
  refine F.ok sc_come_back (fun vs H Q E h => ?_) (fun cdv A outer s H vs Q E hr h => ?_)
  · obtain ⟨d, rfl, _⟩ := h
    rfl
  obtain ⟨d, rfl, H0, a, wd, m, notes, ⟨dx, hd, sh, lt, lb, ut, ub, dxt, dxb, ms, S, R⟩, ha, O, k⟩ := h
  have hD := S.get (i := 0) rfl
  have hLb := S.get (i := 5) rfl
  have hUb := S.get (i := 6) rfl
  refine ⟨_, (@pss_cons _ _ _ _ _ (@ps_if _ _ _ _ _ _ _ _ (@pt_vk _ _ _ (@pe_mt0 _ _ _ _ _ _ _ _ _ _ _ _ (@pe_fld _ _ _ _ _ (pv 0) (by rfl)) M_is_empty hr (by decide) (by rfl)) (by intro _; rfl)) (@pss_one _ _ _ (@ps_ret _ _ _ _ pe_bl)) pss_nil)
    (@pss_cons _ _ _ _ _ (@ps_fld _ _ _ _ _ _ _ _ (pv 0) (@pe_df _ _ _ _ _ _ _ _ _ _ _ D_heard hr (by decide) (by rfl) (@pa_c _ _ _ _ _ (@pe_fld _ _ _ _ _ (pv 0) (by rfl)) (@pa_c _ _ _ _ _ (@pe_mt0 _ _ _ _ _ _ _ _ _ _ _ _ (@pe_fld _ _ _ _ _ (pv 0) (by rfl)) M_take_foremost hr (by decide) (by rfl)) (@pa_c _ _ _ _ _ (@pe_fld _ _ _ _ _ (pv 0) (by rfl)) pa_0 (by rfl)) (by rfl)) (by rfl)) (by rfl) (by rfl) (by decide)) (by rfl))
    (@pss_one _ _ _ (@ps_ret _ _ _ _ pe_bl)))), ?_⟩
  refine ⟨_, rfl, d, CD, dx, _, _, rfl, hD, T.cl, T.nB, rfl, lb, dxb, _, rfl, hLb, rfl, lb, ub, _, rfl, ⟨⟨dxb, hLb⟩, hUb⟩, _, rfl, ?_⟩
  obtain ⟨fst, han, she, the, bac⟩ := m
  cases bac with
  | nil => exact iteA rfl (k H ⟨dx, hd, sh, lt, lb, ut, ub, dxt, dxb, ms, S, R⟩)
  | cons x r =>
    refine iteB rfl ?_
    refine ⟨_, rfl, d, CD, dx, _, _, rfl, hD, T.cl, T.nF, rfl, ?_⟩
    refine ⟨_, rfl, d, CD, dx, _, _, rfl, hD, T.cl, T.nB, rfl, lb, dxb, _, rfl, hLb, rfl, lb, ub, V.int x, r.map V.int, rfl, ⟨⟨dxb, hLb⟩, hUb⟩, ?_⟩
    have S2 := S.set (i := 6) rfl (.lst (r.map V.int))
    have R2 := msgs_tk (Tk.lst hUb (.lst (r.map V.int))) R
    refine ⟨_, rfl, d, CD, dx, _, _, rfl, S2.get (i := 0) rfl, T.cl, T.nW, rfl, _, _, _, rfl, O.w1, ?_⟩
    refine ⟨_, rfl, d, CD, dx, _, rfl, S2.get (i := 0) rfl, T.cl, T.nF, by simp [dayF], ?_⟩
    have S3 := S2.set (i := 0) rfl (.ins CD dx (dayF a wd (heardS fst x wd) hd sh lt lb))
    exact k _ ⟨dx, hd, sh, lt, lb, ut, ub, dxt, dxb, ms, S3, msgs_tk (Tk.ins (S2.get (i := 0) rfl) _) R2⟩
theorem sc_come : FnScope ["day", "message", "behind"] ["day"] (defScope s_come) := ⟨rfl, rfl, rfl, by decide +kernel, rfl, by decide +kernel, by decide +kernel⟩
theorem ok_come (T : TxD K CD) (D_laid : Df P w K mg base "laid" 2 ["handed", "shelf", "mark", "note"] sp_laidW) (M_is_empty : Mt P w K mg base CL "is_empty" 1 ["self"] (sp_is_empty CL)) (M_take_foremost : Mt P w K mg base CL "take_foremost" 1 ["self"] (sp_take CL)) (F : Fun K "come" "come" s_come f fd) :
    FnOk P w K mg base CX0 3 f fd ["day"] (sp_deed CD CL .come) := by
  refine F.ok sc_come (fun vs H Q E h => ?_) (fun cdv A outer s H vs Q E hr h => ?_)
  · obtain ⟨d, rfl, _⟩ := h
    rfl
  obtain ⟨d, rfl, H0, a, wd, m, notes, ⟨dx, hd, sh, lt, lb, ut, ub, dxt, dxb, ms, S, R⟩, ha, O, k⟩ := h
  have hD := S.get (i := 0) rfl
  have hLt := S.get (i := 3) rfl
  have hUt := S.get (i := 4) rfl
  refine ⟨_, (@pss_cons _ _ _ _ _ (@ps_if _ _ _ _ _ _ _ _ (@pt_vk _ _ _ (@pe_mt0 _ _ _ _ _ _ _ _ _ _ _ _ (@pe_fld _ _ _ _ _ (pv 0) (by rfl)) M_is_empty hr (by decide) (by rfl)) (by intro _; rfl)) (@pss_one _ _ _ (@ps_ret _ _ _ _ pe_bl)) pss_nil)
    (@pss_cons _ _ _ _ _ (@ps_sk _ _ 1 _ _ _ _ sc_come.nd rfl (Or.inl rfl) (@pe_mt0 _ _ _ _ _ _ _ _ _ _ _ _ (@pe_fld _ _ _ _ _ (pv 0) (by rfl)) M_take_foremost hr (by decide) (by rfl)) (by rfl) (by first | exact .inl rfl | exact .inr rfl))
    (@pss_cons _ _ _ _ _ (@ps_sk _ _ 2 _ _ _ _ sc_come.nd rfl (Or.inl rfl) (@pe_df _ _ _ _ _ _ _ _ _ _ _ D_laid hr (by decide) (by rfl) (@pa_c _ _ _ _ _ (@pe_fld _ _ _ _ _ (pv 0) (by rfl)) (@pa_c _ _ _ _ _ (@pe_fld _ _ _ _ _ (pv 0) (by rfl)) (@pa_c _ _ _ _ _ (@pe_ix _ _ _ _ _ _ _ ix_tup (pv 1) pe_int (fun _ _ => rfl)) (@pa_c _ _ _ _ _ (@pe_ix _ _ _ _ _ _ _ ix_tup (pv 1) pe_int (fun _ _ => rfl)) pa_0 (by rfl)) (by rfl)) (by rfl)) (by rfl)) (by rfl) (by rfl) (by decide)) (by rfl) (by first | exact .inl rfl | exact .inr rfl))
    (@pss_cons _ _ _ _ _ (@ps_fld _ _ _ _ _ _ _ _ (pv 0) (@pe_ix _ _ _ _ _ _ _ ix_tup (pv 2) pe_int (fun _ _ => rfl)) (by rfl))
    (@pss_cons _ _ _ _ _ (@ps_fld _ _ _ _ _ _ _ _ (pv 0) (@pe_ix _ _ _ _ _ _ _ ix_tup (pv 2) pe_int (fun _ _ => rfl)) (by rfl))
    (@pss_one _ _ _ (@ps_ret _ _ _ _ pe_bl))))))), ?_⟩
  refine ⟨_, rfl, d, CD, dx, _, _, rfl, hD, T.cl, T.nT, rfl, lt, dxt, _, rfl, hLt, rfl, lt, ut, _, rfl, ⟨⟨dxt, hLt⟩, hUt⟩, _, rfl, ?_⟩
  obtain ⟨fst, han, she, the, bac⟩ := m
  obtain ⟨w1, w2, _, sl, hl, _, _⟩ := O
  have sl' : (she.length : Int) = wd := sl
  have hl' : han.length ≤ 200 := hl
  cases R with
  | nil => exact iteA rfl (k H ⟨dx, hd, sh, lt, lb, ut, ub, dxt, dxb, [], S, .nil⟩)
  | @cons p y ms2 the2 hp R =>
    refine iteB rfl ?_
    refine ⟨_, rfl, d, CD, dx, _, _, rfl, hD, T.cl, T.nT, rfl, lt, dxt, _, rfl, hLt, rfl, lt, ut, V.ref p, ms2.map V.ref, rfl, ⟨⟨dxt, hLt⟩, hUt⟩, ?_⟩
    have S2 := S.set (i := 4) rfl (.lst (ms2.map V.ref))
    have R2 := msgs_tk (Tk.lst hUt (.lst (ms2.map V.ref))) R
    have hp2 : MsgAt _ p y := Tk.lst hUt (.lst (ms2.map V.ref)) _ _ hp
    generalize upd H ut (.lst (ms2.map V.ref)) = H2 at S2 R2 hp2 ⊢
    have hD2 := S2.get (i := 0) rfl
    have hT2 := SqT.of (K := K) hp2
    refine ⟨_, rfl, d, CD, dx, _, _, rfl, hD2, T.cl, T.nH, rfl, ?_⟩
    refine ⟨_, rfl, d, CD, dx, _, _, rfl, hD2, T.cl, T.nS, rfl, ?_⟩
    refine ⟨_, rfl, p, _, _, _, rfl, rfl, hT2, at_head _ _, ?_⟩
    refine ⟨_, rfl, p, _, _, _, rfl, rfl, hT2, at_second _ _ _, ?_⟩
    refine ⟨hd, sh, y.1, y.2, han, she, rfl, S2.get (i := 1) rfl, S2.get (i := 2) rfl, by omega, by omega, hl', ?_⟩
    intro hd2 sh2 r H3 s3 hr3 hp3 hq3 np nq npq
    have S3 := S2.same s3
    have n1 : ∀ {q : Addr}, H2 q = none → ∀ z ∈ daySlots CD CL d dx a wd ⟨fst, han, she, the2, bac⟩ hd sh lt lb ut ub dxt dxb ms2, z.1 ≠ q := fun hq z hz => ne_of_none (S2.has z hz) hq
    have S4 := S3.take (i := 1) (by show 1 < 7; decide) hp3 (S2.sm.free np) (n1 np)
    have S5 := S4.take (i := 2) (by show 2 < 7; decide) hq3 (S2.sm.free nq) (fun z hz => by
      rcases List.mem_or_eq_of_mem_set hz with hz | hz
      · exact n1 nq z hz
      · rw [hz]; exact npq)
    have hT3 := SqT.of (K := K) hr3
    refine ⟨_, rfl, r, _, _, _, rfl, rfl, hT3, at_head _ _, _, rfl, d, CD, dx, _, rfl, S5.get (i := 0) rfl, T.cl, T.nH, by simp [dayF], ?_⟩
    have S6 := S5.set (i := 0) rfl (.ins CD dx (dayF a wd fst hd2 sh lt lb))
    have t6 := Tk.ins (S5.get (i := 0) rfl) (.ins CD dx (dayF a wd fst hd2 sh lt lb))
    refine ⟨_, rfl, r, _, _, _, rfl, rfl, SqT.of (t6 _ _ hr3), at_second _ _ _, _, rfl, d, CD, dx, _, rfl, S6.get (i := 0) rfl, T.cl, T.nS, by simp [dayF], ?_⟩
    have S7 := S6.set (i := 0) rfl (.ins CD dx (dayF a wd fst hd2 sh2 lt lb))
    have t7 := Tk.ins (S6.get (i := 0) rfl) (.ins CD dx (dayF a wd fst hd2 sh2 lt lb))
    exact k _ ⟨dx, hd2, sh2, lt, lb, ut, ub, dxt, dxb, ms2, S7, msgs_tk (((Same.tk s3).trans t6).trans t7) R2⟩
theorem sc_state : FnScope ["day"] ["day"] (defScope s_state) := ⟨rfl, rfl, rfl, by decide +kernel, rfl, by decide +kernel, by decide +kernel⟩
theorem ok_state (B : Bt mg) (T : TxD K CD) (M_how_many : Mt P w K mg base CL "how_many" 1 ["self"] (sp_how_many CL)) (F : Fun K "state" "state" s_state f fd) : FnOk P w K mg base CX0 2 f fd ["day"] (sp_state CD CL) := by
  refine F.ok sc_state (fun vs H Q E h => ?_) (fun cdv A outer s H vs Q E hr h => ?_)
  · obtain ⟨H0, d, a, wd, m, rfl, _⟩ := h
    rfl
  obtain ⟨H0, d, a, wd, m, rfl, ⟨dx, hd, sh, lt, lb, ut, ub, dxt, dxb, ms, S, R⟩, k⟩ := h
  have hD := S.get (i := 0) rfl
  have hH := S.get (i := 1) rfl
  have hLt := S.get (i := 3) rfl
  have hUt := S.get (i := 4) rfl
  have hLb := S.get (i := 5) rfl
  have hUb := S.get (i := 6) rfl
  refine ⟨_, (@pss_one _ _ _ (@ps_ret _ _ _ _ (@pe_tx _ _ _ _ _ (@pa_c _ _ _ _ _ (@pe_fld _ _ _ _ _ (pv 0) (by rfl)) (@pa_c _ _ _ _ _ (@pe_cB _ _ _ _ _ _ _ _ _ call_len_seq (by rfl) B.len PySem.boot_len (@pa_c _ _ _ _ _ (@pe_fld _ _ _ _ _ (pv 0) (by rfl)) pa_0 (by rfl)) (by rfl) (by rfl) (by decide) (by decide)) (@pa_c _ _ _ _ _ (@pe_mt0 _ _ _ _ _ _ _ _ _ _ _ _ (@pe_fld _ _ _ _ _ (pv 0) (by rfl)) M_how_many hr (by decide) (by rfl)) (@pa_c _ _ _ _ _ (@pe_mt0 _ _ _ _ _ _ _ _ _ _ _ _ (@pe_fld _ _ _ _ _ (pv 0) (by rfl)) M_how_many hr (by decide) (by rfl)) pa_0 (by rfl)) (by rfl)) (by rfl)) (by rfl))))), ?_⟩
  refine ⟨_, rfl, d, CD, dx, _, _, rfl, hD, T.cl, T.nF, rfl, ?_⟩
  refine ⟨_, rfl, d, CD, dx, _, _, rfl, hD, T.cl, T.nH, rfl, hd, _, rfl, .inl (SqL.of hH), ?_⟩
  refine ⟨_, rfl, d, CD, dx, _, _, rfl, hD, T.cl, T.nT, rfl, lt, dxt, _, rfl, hLt, rfl, lt, ut, _, rfl, ⟨⟨dxt, hLt⟩, hUt⟩, ?_⟩
  refine ⟨_, rfl, d, CD, dx, _, _, rfl, hD, T.cl, T.nB, rfl, lb, dxb, _, rfl, hLb, rfl, lb, ub, _, rfl, ⟨⟨dxb, hLb⟩, hUb⟩, ?_⟩
  refine ⟨(by show 4 ≤ sizeLine; decide), fun t ht => ?_⟩
  have e : (mRow m).map V.int = [V.int m.first, V.int (((m.handed.map V.str).length : Nat) : Int), V.int (((ms.map V.ref).length : Nat) : Int), V.int (((m.back.map V.int).length : Nat) : Int)] := by
    rw [List.length_map, List.length_map, List.length_map, PySem.Paired.length R]
    rfl
  have := k t ht
  rw [e] at this
  exact this
theorem sc_done : FnScope ["day", "deed", "name"] ["day", "deed"] (defScope s_done) := ⟨rfl, rfl, rfl, by decide +kernel, rfl, by decide +kernel, by decide +kernel⟩
theorem ok_done (T : TxD K CD) (D_tell : Df P w K mg base "tell" 2 ["day", "step"] (sp_tell CD CL)) (D_come : Df P w K mg base "come" 3 ["day"] (sp_deed CD CL .come)) (D_answer : Df P w K mg base "answer" 2 ["day"] (sp_deed CD CL .answer))
    (D_come_back : Df P w K mg base "come_back" 3 ["day"] (sp_deed CD CL .comeB)) (D_lost_on : Df P w K mg base "lost_on" 2 ["line"] (sp_lost_on CL)) (D_doubled_on : Df P w K mg base "doubled_on" 2 ["line"] (sp_doubled_on CL)) (F : Fun K "done" "done" s_done f fd) :
    FnOk P w K mg base CX0 4 f fd ["day", "deed"] (sp_done CD CL) := by
  refine F.ok sc_done (fun vs H Q E h => ?_) (fun cdv A outer s H vs Q E hr h => ?_)
  · obtain ⟨d, p, dd, rfl, _⟩ := h
    rfl
  obtain ⟨d, p, dd, rfl, hp, C⟩ := h
  have hT := SqT.of (K := K) hp
  refine ⟨_, (@pss_cons _ _ _ _ _ (@ps_sk _ _ 2 _ _ _ _ sc_done.nd rfl (Or.inl rfl) (@pe_ix _ _ _ _ _ _ _ ix_tup (pv 1) pe_int (fun _ _ => rfl)) (by rfl) (by first | exact .inl rfl | exact .inr rfl))
    (@pss_cons _ _ _ _ _ (@ps_if _ _ _ _ _ _ _ _ (@pt_cmpR _ _ _ _ _ _ _ _ op_eq (pv 2) pe_str (nomark _)) (@pss_one _ _ _ (@ps_ret _ _ _ _ (@pe_df _ _ _ _ _ _ _ _ _ _ _ D_tell hr (by decide) (by rfl) (@pa_c _ _ _ _ _ (pv 0) (@pa_c _ _ _ _ _ (@pe_ix _ _ _ _ _ _ _ ix_tup (pv 1) pe_int (fun _ _ => rfl)) pa_0 (by rfl)) (by rfl)) (by rfl) (by rfl) (by decide)))) pss_nil)
    (@pss_cons _ _ _ _ _ (@ps_if _ _ _ _ _ _ _ _ (@pt_cmpR _ _ _ _ _ _ _ _ op_eq (pv 2) pe_str (nomark _)) (@pss_one _ _ _ (@ps_ret _ _ _ _ (@pe_df _ _ _ _ _ _ _ _ _ _ _ D_come hr (by decide) (by rfl) (@pa_c _ _ _ _ _ (pv 0) pa_0 (by rfl)) (by rfl) (by rfl) (by decide)))) pss_nil)
    (@pss_cons _ _ _ _ _ (@ps_if _ _ _ _ _ _ _ _ (@pt_cmpR _ _ _ _ _ _ _ _ op_eq (pv 2) pe_str (nomark _)) (@pss_one _ _ _ (@ps_ret _ _ _ _ (@pe_df _ _ _ _ _ _ _ _ _ _ _ D_lost_on hr (by decide) (by rfl) (@pa_c _ _ _ _ _ (@pe_fld _ _ _ _ _ (pv 0) (by rfl)) pa_0 (by rfl)) (by rfl) (by rfl) (by decide)))) pss_nil)
    (@pss_cons _ _ _ _ _ (@ps_if _ _ _ _ _ _ _ _ (@pt_cmpR _ _ _ _ _ _ _ _ op_eq (pv 2) pe_str (nomark _)) (@pss_one _ _ _ (@ps_ret _ _ _ _ (@pe_df _ _ _ _ _ _ _ _ _ _ _ D_doubled_on hr (by decide) (by rfl) (@pa_c _ _ _ _ _ (@pe_fld _ _ _ _ _ (pv 0) (by rfl)) pa_0 (by rfl)) (by rfl) (by rfl) (by decide)))) pss_nil)
    (@pss_cons _ _ _ _ _ (@ps_if _ _ _ _ _ _ _ _ (@pt_cmpR _ _ _ _ _ _ _ _ op_eq (pv 2) pe_str (nomark _)) (@pss_one _ _ _ (@ps_ret _ _ _ _ (@pe_df _ _ _ _ _ _ _ _ _ _ _ D_answer hr (by decide) (by rfl) (@pa_c _ _ _ _ _ (pv 0) pa_0 (by rfl)) (by rfl) (by rfl) (by decide)))) pss_nil)
    (@pss_cons _ _ _ _ _ (@ps_if _ _ _ _ _ _ _ _ (@pt_cmpR _ _ _ _ _ _ _ _ op_eq (pv 2) pe_str (nomark _)) (@pss_one _ _ _ (@ps_ret _ _ _ _ (@pe_df _ _ _ _ _ _ _ _ _ _ _ D_come_back hr (by decide) (by rfl) (@pa_c _ _ _ _ _ (pv 0) pa_0 (by rfl)) (by rfl) (by rfl) (by decide)))) pss_nil)
    (@pss_cons _ _ _ _ _ (@ps_if _ _ _ _ _ _ _ _ (@pt_cmpR _ _ _ _ _ _ _ _ op_eq (pv 2) pe_str (nomark _)) (@pss_one _ _ _ (@ps_ret _ _ _ _ (@pe_df _ _ _ _ _ _ _ _ _ _ _ D_lost_on hr (by decide) (by rfl) (@pa_c _ _ _ _ _ (@pe_fld _ _ _ _ _ (pv 0) (by rfl)) pa_0 (by rfl)) (by rfl) (by rfl) (by decide)))) pss_nil)
    (@pss_cons _ _ _ _ _ (@ps_if _ _ _ _ _ _ _ _ (@pt_cmpR _ _ _ _ _ _ _ _ op_eq (pv 2) pe_str (nomark _)) (@pss_one _ _ _ (@ps_ret _ _ _ _ (@pe_df _ _ _ _ _ _ _ _ _ _ _ D_doubled_on hr (by decide) (by rfl) (@pa_c _ _ _ _ _ (@pe_fld _ _ _ _ _ (pv 0) (by rfl)) pa_0 (by rfl)) (by rfl) (by rfl) (by decide)))) pss_nil)
    (@pss_one _ _ _ ps_never)))))))))), ?_⟩
  have C2 := C
  obtain ⟨H0, a, wd, m, notes, ⟨dx, hd, sh, lt, lb, ut, ub, dxt, dxb, ms, S, R⟩, ha, O, k⟩ := C
  have hD := S.get (i := 0) rfl
  have hLt := S.get (i := 3) rfl
  have hUt := S.get (i := 4) rfl
  have hLb := S.get (i := 5) rfl
  have hUb := S.get (i := 6) rfl
  have tl := O.tl
  have bl := O.bl
  have el := PySem.Paired.length R
  cases dd with
  | tell st =>
    refine ⟨_, rfl, p, _, _, _, rfl, rfl, hT, at_head _ _, ?_⟩
    refine ⟨_, rfl, rfl, _, rfl, iteA (by decide +kernel) ?_⟩
    exact ⟨_, rfl, _, rfl, p, _, _, _, rfl, rfl, hT, at_second _ _ _, d, st, rfl, C2⟩
  | come =>
    refine ⟨_, rfl, p, _, _, _, rfl, rfl, hT, at_head _ _, ?_⟩
    refine ⟨_, rfl, rfl, _, rfl, iteB (by decide +kernel) ?_⟩
    refine ⟨_, rfl, rfl, _, rfl, iteA (by decide +kernel) ?_⟩
    exact ⟨_, rfl, d, rfl, C2⟩
  | miss =>
    refine ⟨_, rfl, p, _, _, _, rfl, rfl, hT, at_head _ _, ?_⟩
    refine ⟨_, rfl, rfl, _, rfl, iteB (by decide +kernel) ?_⟩
    refine ⟨_, rfl, rfl, _, rfl, iteB (by decide +kernel) ?_⟩
    refine ⟨_, rfl, rfl, _, rfl, iteA (by decide +kernel) ?_⟩
    refine ⟨_, rfl, d, CD, dx, _, _, rfl, hD, T.cl, T.nT, rfl, lt, ut, _, rfl, ⟨⟨dxt, hLt⟩, hUt⟩, ?_⟩
    obtain ⟨fst, han, she, the, bac⟩ := m
    cases R with
    | nil => exact k H ⟨dx, hd, sh, lt, lb, ut, ub, dxt, dxb, [], S, .nil⟩
    | @cons p2 y ms2 the2 hp2 R => exact k _ ⟨dx, hd, sh, lt, lb, ut, ub, dxt, dxb, ms2, S.set (i := 4) rfl (.lst (ms2.map V.ref)), msgs_tk (Tk.lst hUt _) R⟩
  | twice =>
    refine ⟨_, rfl, p, _, _, _, rfl, rfl, hT, at_head _ _, ?_⟩
    refine ⟨_, rfl, rfl, _, rfl, iteB (by decide +kernel) ?_⟩
    refine ⟨_, rfl, rfl, _, rfl, iteB (by decide +kernel) ?_⟩
    refine ⟨_, rfl, rfl, _, rfl, iteB (by decide +kernel) ?_⟩
    refine ⟨_, rfl, rfl, _, rfl, iteA (by decide +kernel) ?_⟩
    refine ⟨_, rfl, d, CD, dx, _, _, rfl, hD, T.cl, T.nT, rfl, lt, ut, _, rfl, ⟨⟨dxt, hLt⟩, hUt⟩, by rw [List.length_map]; omega, ?_⟩
    obtain ⟨fst, han, she, the, bac⟩ := m
    cases R with
    | nil => exact k H ⟨dx, hd, sh, lt, lb, ut, ub, dxt, dxb, [], S, .nil⟩
    | @cons p2 y ms2 the2 hp2 R =>
      have tk := Tk.lst hUt (.lst ((p2 :: p2 :: ms2).map V.ref))
      exact k _ ⟨dx, hd, sh, lt, lb, ut, ub, dxt, dxb, p2 :: p2 :: ms2, S.set (i := 4) rfl (.lst ((p2 :: p2 :: ms2).map V.ref)), .cons (tk _ _ hp2) (.cons (tk _ _ hp2) (msgs_tk tk R))⟩
  | answer =>
    refine ⟨_, rfl, p, _, _, _, rfl, rfl, hT, at_head _ _, ?_⟩
    refine ⟨_, rfl, rfl, _, rfl, iteB (by decide +kernel) ?_⟩
    refine ⟨_, rfl, rfl, _, rfl, iteB (by decide +kernel) ?_⟩
    refine ⟨_, rfl, rfl, _, rfl, iteB (by decide +kernel) ?_⟩
    refine ⟨_, rfl, rfl, _, rfl, iteB (by decide +kernel) ?_⟩
    refine ⟨_, rfl, rfl, _, rfl, iteA (by decide +kernel) ?_⟩
    exact ⟨_, rfl, d, rfl, C2⟩
  | comeB =>
    refine ⟨_, rfl, p, _, _, _, rfl, rfl, hT, at_head _ _, ?_⟩
    refine ⟨_, rfl, rfl, _, rfl, iteB (by decide +kernel) ?_⟩
    refine ⟨_, rfl, rfl, _, rfl, iteB (by decide +kernel) ?_⟩
    refine ⟨_, rfl, rfl, _, rfl, iteB (by decide +kernel) ?_⟩
    refine ⟨_, rfl, rfl, _, rfl, iteB (by decide +kernel) ?_⟩
    refine ⟨_, rfl, rfl, _, rfl, iteB (by decide +kernel) ?_⟩
    refine ⟨_, rfl, rfl, _, rfl, iteA (by decide +kernel) ?_⟩
    exact ⟨_, rfl, d, rfl, C2⟩
  | missB =>
    refine ⟨_, rfl, p, _, _, _, rfl, rfl, hT, at_head _ _, ?_⟩
    refine ⟨_, rfl, rfl, _, rfl, iteB (by decide +kernel) ?_⟩
    refine ⟨_, rfl, rfl, _, rfl, iteB (by decide +kernel) ?_⟩
    refine ⟨_, rfl, rfl, _, rfl, iteB (by decide +kernel) ?_⟩
    refine ⟨_, rfl, rfl, _, rfl, iteB (by decide +kernel) ?_⟩
    refine ⟨_, rfl, rfl, _, rfl, iteB (by decide +kernel) ?_⟩
    refine ⟨_, rfl, rfl, _, rfl, iteB (by decide +kernel) ?_⟩
    refine ⟨_, rfl, rfl, _, rfl, iteA (by decide +kernel) ?_⟩
    refine ⟨_, rfl, d, CD, dx, _, _, rfl, hD, T.cl, T.nB, rfl, lb, ub, _, rfl, ⟨⟨dxb, hLb⟩, hUb⟩, ?_⟩
    obtain ⟨fst, han, she, the, bac⟩ := m
    cases bac with
    | nil => exact k H ⟨dx, hd, sh, lt, lb, ut, ub, dxt, dxb, ms, S, R⟩
    | cons y bac => exact k _ ⟨dx, hd, sh, lt, lb, ut, ub, dxt, dxb, ms, S.set (i := 6) rfl (.lst (bac.map V.int)), msgs_tk (Tk.lst hUb _) R⟩
  | twiceB =>
    refine ⟨_, rfl, p, _, _, _, rfl, rfl, hT, at_head _ _, ?_⟩
    refine ⟨_, rfl, rfl, _, rfl, iteB (by decide +kernel) ?_⟩
    refine ⟨_, rfl, rfl, _, rfl, iteB (by decide +kernel) ?_⟩
    refine ⟨_, rfl, rfl, _, rfl, iteB (by decide +kernel) ?_⟩
    refine ⟨_, rfl, rfl, _, rfl, iteB (by decide +kernel) ?_⟩
    refine ⟨_, rfl, rfl, _, rfl, iteB (by decide +kernel) ?_⟩
    refine ⟨_, rfl, rfl, _, rfl, iteB (by decide +kernel) ?_⟩
    refine ⟨_, rfl, rfl, _, rfl, iteB (by decide +kernel) ?_⟩
    refine ⟨_, rfl, rfl, _, rfl, iteA (by decide +kernel) ?_⟩
    refine ⟨_, rfl, d, CD, dx, _, _, rfl, hD, T.cl, T.nB, rfl, lb, ub, _, rfl, ⟨⟨dxb, hLb⟩, hUb⟩, by rw [List.length_map]; omega, ?_⟩
    obtain ⟨fst, han, she, the, bac⟩ := m
    cases bac with
    | nil => exact k H ⟨dx, hd, sh, lt, lb, ut, ub, dxt, dxb, ms, S, R⟩
    | cons y bac => exact k _ ⟨dx, hd, sh, lt, lb, ut, ub, dxt, dxb, ms, S.set (i := 6) rfl (.lst ((y :: y :: bac).map V.int)), msgs_tk (Tk.lst hUb _) R⟩
end
end Fh


set_option Elab.async false
set_option linter.all false
set_option maxRecDepth 100000
set_option maxHeartbeats 4000000
namespace Fh
open PySem L2 Fd
/-! ### the program: whole days -/
theorem mAt_succ {notes : List Str} {wd : Int} {ds : List Deed} {i : Nat} {d : Deed} (h : ds[i]? = some d) : mAt notes wd ds (i + 1) = (stepM notes wd (mAt notes wd ds i) d).2 := by
  unfold mAt endM
  rw [List.take_add_one, h, List.foldl_append]
  rfl
theorem mAt_ok {notes : List Str} {wd : Int} {ds : List Deed} (w1 : 1 ≤ wd) (w2 : wd ≤ 100) (nl : notes.length ≤ 200) (dl : ds.length ≤ 900) (i : Nat) : MOk wd (mAt notes wd ds i) := by
  show MOk wd (endM notes wd (M.start Str wd) (ds.take i))
  obtain ⟨r, g⟩ := day_rel (notes := notes) w1 (ds.take i)
  have t := there_le notes.length wd (ds.take i) N.start
  have e1 := congrArg List.length r.there
  have e2 := congrArg List.length r.back
  have e3 := r.hlen g
  have e4 := g.cn
  have e5 := g.f0
  rw [List.length_map, List.length_map] at e1
  rw [List.length_map] at e2
  simp only [N.start, List.length_nil, Nat.zero_add] at t
  have l : (ds.take i).length ≤ ds.length := by rw [List.length_take]; omega
  have u1 : (endN (notes.length : Int) wd N.start (ds.take i)).there.length ≤ (ds.take i).length := t.1
  have u2 : (endN (notes.length : Int) wd N.start (ds.take i)).back.length ≤ (ds.take i).length := t.2
  exact ⟨w1, w2, by rw [r.first]; exact e5, r.slen, by omega, by omega, by omega⟩
/-- the width is refused, or all goes its way -/
def raising (CN : Addr) (sp0 : Sp) : Sp := fun vs H Q E => (∃ (a b : Addr) (wd : Int), vs = [.ref a, .int wd, .ref b] ∧ wd < 1 ∧ E (.ref CN) none H) ∨ sp0 vs H Q E
theorem Same.ne_new {H : Hp} {r t : Addr} {o : HO} (h : H r = some o) (ht : H t = none) : r ≠ t := ne_of_none h ht
section
variable {P : Program} {w : World} {K : PySem.W.Frag} {mg : Str → Option Value} {base : Heap} {f CD CL CN : Addr} {fd : FuncData}
theorem sc_states : FnScope ["notes", "width", "deeds", "day", "rows", "deed"] ["notes", "width", "deeds"] (defScope s_states) := ⟨rfl, rfl, rfl, by decide +kernel, rfl, by decide +kernel, by decide +kernel⟩
theorem ok_states (D_begun : Dx P w K mg base "begun" 5 ["notes", "width"] (sp_begun CD CL CN)) (D_done : Df P w K mg base "done" 4 ["day", "deed"] (sp_done CD CL)) (D_state : Df P w K mg base "state" 2 ["day"] (sp_state CD CL)) (F : Fun K "states" "states" s_states f fd) :
    FnOk P w K mg base (CX1 P w) 6 f fd ["notes", "width", "deeds"] (raising CN sp_states) := by
  refine F.okX sc_states (fun vs H Q E h => ?_) (fun cdv A outer s H vs Q E hr h => ?_)
  · rcases h with ⟨a, b, wd, rfl, _⟩ | ⟨a, b, wd, notes, as, ds, rfl, _⟩ <;> rfl
  rcases h with ⟨a, b, wd, rfl, hw, hE⟩ | ⟨a, b, wd, notes, as, ds, rfl, D, q⟩
  · refine ⟨_, (@pss_cons _ _ _ _ _ (@ps_sk _ _ 3 _ _ _ _ sc_states.nd rfl (Or.inl rfl) (@pe_dx _ _ _ _ _ _ _ _ _ _ _ _ D_begun hr (by decide) (by rfl) passes_on (@pa_c _ _ _ _ _ (pv 0) (@pa_c _ _ _ _ _ (pv 1) pa_0 (by rfl)) (by rfl)) (by rfl) (by rfl) (by decide)) (by rfl) (by first | exact .inl rfl | exact .inr rfl))
    (@PSs.nox _ _ _ (@pss_cons _ _ _ _ _ (@ps_sk _ _ 4 _ _ _ _ sc_states.nd rfl (Or.inl rfl) (@pe_lx _ _ _ _ pa_0) (by rfl) (by first | exact .inl rfl | exact .inr rfl))
    (@pss_cons _ _ _ _ _ (@ps_fk _ _ _ _ _ _ _ _ PassesOwn.never rfl (@pi_list _ _ _ _ (pv 2)) (pg_name (i := 5) sc_states.nd rfl (Or.inl rfl))
      (@pss_cons _ _ _ _ _ (@ps_ek _ _ _ _ (@pe_df _ _ _ _ _ _ _ _ _ _ _ D_done hr (by decide) (by rfl) (@pa_c _ _ _ _ _ (pv 3) (@pa_c _ _ _ _ _ (pv 5) pa_0 (by rfl)) (by rfl)) (by rfl) (by rfl) (by decide)) (by rfl))
      (@pss_one _ _ _ (@ps_ek _ _ _ _ (@pe_append _ _ _ _ _ _ _ (pv 4) (@pe_df _ _ _ _ _ _ _ _ _ _ _ D_state hr (by decide) (by rfl) (@pa_c _ _ _ _ _ (pv 3) pa_0 (by rfl)) (by rfl) (by rfl) (by decide)) (by rfl) (by rfl) (by rfl)) (by rfl)))) (by intro _; rfl))
    (@pss_one _ _ _ (@ps_ret _ _ _ _ (pv 4))))))), ?_⟩
    exact ⟨_, rfl, _, rfl, a, wd, rfl, by omega, fun c => absurd c (by omega), fun _ => hE⟩
  refine ⟨_, (@pss_cons _ _ _ _ _ (@ps_sk _ _ 3 _ _ _ _ sc_states.nd rfl (Or.inl rfl) (@pe_dx _ _ _ _ _ _ _ _ _ _ _ _ D_begun hr (by decide) (by rfl) passes_on (@pa_c _ _ _ _ _ (pv 0) (@pa_c _ _ _ _ _ (pv 1) pa_0 (by rfl)) (by rfl)) (by rfl) (by rfl) (by decide)) (by rfl) (by first | exact .inl rfl | exact .inr rfl))
    (@PSs.nox _ _ _ (@pss_cons _ _ _ _ _ (@ps_sk _ _ 4 _ _ _ _ sc_states.nd rfl (Or.inl rfl) (@pe_lx _ _ _ _ pa_0) (by rfl) (by first | exact .inl rfl | exact .inr rfl))
    (@pss_cons _ _ _ _ _ (@ps_fk _ _ _ _ _ _ _ _ PassesOwn.never rfl (@pi_list _ _ _ _ (pv 2)) (pg_name (i := 5) sc_states.nd rfl (Or.inl rfl))
      (@pss_cons _ _ _ _ _ (@ps_ek _ _ _ _ (@pe_df _ _ _ _ _ _ _ _ _ _ _ D_done hr (by decide) (by rfl) (@pa_c _ _ _ _ _ (pv 3) (@pa_c _ _ _ _ _ (pv 5) pa_0 (by rfl)) (by rfl)) (by rfl) (by rfl) (by decide)) (by rfl))
      (@pss_one _ _ _ (@ps_ek _ _ _ _ (@pe_append _ _ _ _ _ _ _ (pv 4) (@pe_df _ _ _ _ _ _ _ _ _ _ _ D_state hr (by decide) (by rfl) (@pa_c _ _ _ _ _ (pv 3) pa_0 (by rfl)) (by rfl) (by rfl) (by decide)) (by rfl) (by rfl) (by rfl)) (by rfl)))) (by intro _; rfl))
    (@pss_one _ _ _ (@ps_ret _ _ _ _ (pv 4))))))), ?_⟩
  have w1 := D.w1
  have dl := D.dl
  refine ⟨_, rfl, _, rfl, a, wd, rfl, D.w2, fun _ x H1 D1 => ?_, fun c => absurd c (by omega)⟩
  refine ⟨(by show 0 ≤ sizeLine; decide), fun r hr0 => ?_⟩
  have hrn : H r = none := D1.sm.free hr0
  have D2 := D1.fresh hr0 (.lst [])
  have s2 : Same H (upd H r (.lst [])) := same_new hrn _
  refine ⟨_, rfl, b, rfl, ⟨_, SqL.of (D2.sm _ _ (s2 _ _ D.hb))⟩, for_list (K := K) (a := b) (xs := as.map V.ref) (fun i σ H' => ∃ (v5 : Option V) (B : Hp) (rs : List Addr), σ = [some (.ref a), some (.int wd), some (.ref b), some (.ref x), some (.ref r), v5] ∧
      Same H B ∧ B r = some (.lst (rs.map V.ref)) ∧ rs.length = i ∧ (∀ j : Nat, j < i → ∃ t, rs[j]? = some t ∧ B t = some (.tup ((mRow (mAt notes wd ds (j + 1))).map V.int))) ∧ DyAt CD CL B H' x a wd (mAt notes wd ds i))
    ⟨none, _, [], rfl, s2, upd_same, rfl, fun j hj => absurd hj (Nat.not_lt_zero _), D2⟩ (fun i σ H' _ ⟨_, B, _, _, sB, _, _, _, DD⟩ => SqL.of (DD.sm _ _ (sB _ _ D.hb))) ?_ ?_⟩
  · clear D2 s2
    rintro i v σ H' hi ⟨v5, B, rs, rfl, sB, hB, bl, bc, DD⟩
    obtain ⟨p, d, rfl, _, hd, hp⟩ := (D.da.same (sB.trans DD.sm)).get hi
    have il : i < ds.length := (List.getElem?_eq_some_iff.mp hd).1
    refine ⟨_, rfl, _, rfl, x, p, d, rfl, hp, B, a, wd, mAt notes wd ds i, notes, DD, sB _ _ D.ha, mAt_ok w1 D.w2 D.nl dl i, fun H2 D2 => ?_⟩
    rw [← mAt_succ hd] at D2
    refine ⟨_, rfl, .inl ⟨rfl, _, SqL.of (D2.sm _ _ hB)⟩, _, rfl, B, x, a, wd, _, rfl, D2, fun t ht => ?_⟩
    have D3 := D2.fresh ht (.tup ((mRow (mAt notes wd ds (i + 1))).map V.int))
    have nt : r ≠ t := ne_of_none (D2.sm _ _ hB) ht
    have hB3 : upd B t (.tup ((mRow (mAt notes wd ds (i + 1))).map V.int)) r = some (.lst (rs.map V.ref)) := by rw [upd_ne nt]; exact hB
    refine ⟨r, _, _, rfl, rfl, D3.sm _ _ hB3, sized (by rw [List.length_map]; omega), ?_⟩
    have D4 := D3.write hB3 (.lst ((rs ++ [t]).map V.ref))
    have e : rs.map V.ref ++ [V.ref t] = (rs ++ [t]).map V.ref := by rw [List.map_append]; rfl
    have bt : B t = none := D2.sm.free ht
    have tk := (Tk.new bt (.tup ((mRow (mAt notes wd ds (i + 1))).map V.int))).trans (Tk.lst hB3 (.lst ((rs ++ [t]).map V.ref)))
    refine ⟨_, _, rs ++ [t], rfl, (sB.new bt (.tup ((mRow (mAt notes wd ds (i + 1))).map V.int))).write hrn _, upd_same, by rw [List.length_append, bl]; rfl, fun j hj => ?_, ?_⟩
    · by_cases c : j < i
      · obtain ⟨t', h1, h2⟩ := bc j c
        exact ⟨t', by rw [List.getElem?_append_left (by omega)]; exact h1, tk _ _ h2⟩
      · have ej : j = i := by omega
        subst ej
        refine ⟨t, by rw [← bl]; simp, ?_⟩
        rw [upd_ne nt.symm]
        exact upd_same
    · rw [e]
      exact D4
  · rintro σ H' ⟨v5, B, rs, rfl, sB, hB, bl, bc, DD⟩
    have e : (as.map V.ref).length = ds.length := by rw [List.length_map, D.da.len]
    refine ⟨_, rfl, q r rs H' hrn (sB.trans DD.sm) (DD.sm _ _ hB) (bl.trans e) fun i hi => ?_⟩
    obtain ⟨t, h1, h2⟩ := bc i (by rw [e]; exact hi)
    exact ⟨t, h1, DD.sm _ _ h2⟩
end
end Fh


set_option Elab.async false
set_option linter.all false
set_option maxRecDepth 100000
set_option maxHeartbeats 4000000
namespace Fh
open PySem L2 Fd
section
variable {P : Program} {w : World} {K : PySem.W.Frag} {mg : Str → Option Value} {base : Heap} {f : Addr} {fd : FuncData}
theorem sc_law : FnScope ["_law_script", "_law_width", "_law_many", "_law_notes", "_law_asked", "_law_given", "_law_handed", "_law_found", "_law_due", "_law_k", "_law_part"] ["_law_script"] (defScope s_law) := ⟨rfl, rfl, rfl, by decide +kernel, rfl, by decide +kernel, by decide +kernel⟩
theorem ok_law (B : Bt mg) (D_law_at : Df P w K mg base "_law_at" 1 ["_law_script", "_law_k"] (sp_at K)) (D_law_room : Df P w K mg base "_law_room" 1 ["_law_script", "_law_most", "_law_bound"] (sp_room K))
    (D_law_whole : Df P w K mg base "_law_whole" 1 ["_law_found"] sp_whole) (D_law_letters : Df P w K mg base "_law_letters" 1 ["_law_many", "_law_gap"] sp_letters) (D_law_deeds : Df P w K mg base "_law_deeds" 1 ["_law_cells", "_law_width"] (sp_deeds K))
    (D_law_texts : Df P w K mg base "_law_texts" 1 ["_law_found", "_law_due"] sp_texts) (D_law_same : Df P w K mg base "_law_same" 2 ["_law_handed", "_law_asked"] sp_same)
    (D_law_plainly : Df P w K mg base "_law_plainly" 1 ["_law_notes", "_law_width", "_law_asked"] sp_plainly) (D_states : Df P w K mg base "states" 20 ["notes", "width", "deeds"] sp_states)
    (F : Fun K "law" "law" s_law f fd) : FnOk P w K mg base CX0 21 f fd ["_law_script"] (sp_law K) := by
  refine F.ok sc_law (fun vs H Q E h => ?_) (fun cdv A outer s H vs Q E hr h => ?_)
  · obtain ⟨a, ns, rfl, _⟩ := h
    rfl
  obtain ⟨a, ns, rfl, hS, h63, q⟩ := h
  refine ⟨_, (@pss_cons _ _ _ _ _ (@ps_sk _ _ 1 _ _ _ _ sc_law.nd rfl (Or.inl rfl) (@pe_ix _ _ _ _ _ _ _ ix_list (@pe_lx _ _ _ _ (@pa_c _ _ _ _ _ pe_int (@pa_c _ _ _ _ _ pe_int (@pa_c _ _ _ _ _ pe_int (@pa_c _ _ _ _ _ pe_int (@pa_c _ _ _ _ _ pe_int (@pa_c _ _ _ _ _ pe_int (@pa_c _ _ _ _ _ pe_int (@pa_c _ _ _ _ _ pe_int (@pa_c _ _ _ _ _ pe_int (@pa_c _ _ _ _ _ (@pe_op _ _ _ _ _ _ _ _ op_add pe_int (@pe_op _ _ _ _ _ _ _ _ op_mod (@pe_op _ _ _ _ _ _ _ _ op_fdiv (@pe_df _ _ _ _ _ _ _ _ _ _ _ D_law_at hr (by decide) (by rfl) (@pa_c _ _ _ _ _ (pv 0) (@pa_c _ _ _ _ _ pe_int pa_0 (by rfl)) (by rfl)) (by rfl) (by rfl) (by decide)) pe_int) pe_int)) pa_0 (by rfl)) (by rfl)) (by rfl)) (by rfl)) (by rfl)) (by rfl)) (by rfl)) (by rfl)) (by rfl)) (by rfl))) (@pe_op _ _ _ _ _ _ _ _ op_mod (@pe_df _ _ _ _ _ _ _ _ _ _ _ D_law_at hr (by decide) (by rfl) (@pa_c _ _ _ _ _ (pv 0) (@pa_c _ _ _ _ _ pe_int pa_0 (by rfl)) (by rfl)) (by rfl) (by rfl) (by decide)) pe_int) (fun _ _ => rfl)) (by rfl) (by first | exact .inl rfl | exact .inr rfl))
    (@pss_cons _ _ _ _ _ (@ps_sk _ _ 2 _ _ _ _ sc_law.nd rfl (Or.inl rfl) (@pe_df _ _ _ _ _ _ _ _ _ _ _ D_law_room hr (by decide) (by rfl) (@pa_c _ _ _ _ _ (pv 0) (@pa_c _ _ _ _ _ pe_int (@pa_c _ _ _ _ _ pe_int pa_0 (by rfl)) (by rfl)) (by rfl)) (by rfl) (by rfl) (by decide)) (by rfl) (by first | exact .inl rfl | exact .inr rfl))
    (@pss_cons _ _ _ _ _ (@ps_sk _ _ 3 _ _ _ _ sc_law.nd rfl (Or.inl rfl) (@pe_df _ _ _ _ _ _ _ _ _ _ _ D_law_letters hr (by decide) (by rfl) (@pa_c _ _ _ _ _ (@pe_op _ _ _ _ _ _ _ _ op_sub (pv 2) (@pe_op _ _ _ _ _ _ _ _ op_mod (@pe_df _ _ _ _ _ _ _ _ _ _ _ D_law_at hr (by decide) (by rfl) (@pa_c _ _ _ _ _ (pv 0) (@pa_c _ _ _ _ _ pe_int pa_0 (by rfl)) (by rfl)) (by rfl) (by rfl) (by decide)) (@pe_op _ _ _ _ _ _ _ _ op_add (pv 2) pe_int))) (@pa_c _ _ _ _ _ (@pe_op _ _ _ _ _ _ _ _ op_fdiv (@pe_df _ _ _ _ _ _ _ _ _ _ _ D_law_at hr (by decide) (by rfl) (@pa_c _ _ _ _ _ (pv 0) (@pa_c _ _ _ _ _ pe_int pa_0 (by rfl)) (by rfl)) (by rfl) (by rfl) (by decide)) pe_int) pa_0 (by rfl)) (by rfl)) (by rfl) (by rfl) (by decide)) (by rfl) (by first | exact .inl rfl | exact .inr rfl))
    (@pss_cons _ _ _ _ _ (@ps_sk _ _ 4 _ _ _ _ sc_law.nd rfl (Or.inl rfl) (@pe_df _ _ _ _ _ _ _ _ _ _ _ D_law_deeds hr (by decide) (by rfl) (@pa_c _ _ _ _ _ (@pe_slice _ _ _ _ _ _ _ _ _ _ sl_list (pv 0) (@po_some _ _ _ pe_int) (@po_some _ _ _ pe_int)) (@pa_c _ _ _ _ _ (pv 1) pa_0 (by rfl)) (by rfl)) (by rfl) (by rfl) (by decide)) (by rfl) (by first | exact .inl rfl | exact .inr rfl))
    (@pss_cons _ _ _ _ _ (@ps_sk _ _ 5 _ _ _ _ sc_law.nd rfl (Or.inl rfl) (@pe_cTy _ _ _ _ _ _ _ _ _ call_list_of (by rfl) B.list PyProof.Rows.boot_list (@pa_c _ _ _ _ _ (pv 3) pa_0 (by rfl)) (by rfl) (by rfl) (by decide) (by decide)) (by rfl) (by first | exact .inl rfl | exact .inr rfl))
    (@pss_cons _ _ _ _ _ (@ps_sk _ _ 6 _ _ _ _ sc_law.nd rfl (Or.inl rfl) (@pe_cTy _ _ _ _ _ _ _ _ _ call_list_of (by rfl) B.list PyProof.Rows.boot_list (@pa_c _ _ _ _ _ (pv 4) pa_0 (by rfl)) (by rfl) (by rfl) (by decide) (by decide)) (by rfl) (by first | exact .inl rfl | exact .inr rfl))
    (@pss_cons _ _ _ _ _ (@ps_sk _ _ 7 _ _ _ _ sc_law.nd rfl (Or.inl rfl) (@pe_df _ _ _ _ _ _ _ _ _ _ _ D_states hr (by decide) (by rfl) (@pa_c _ _ _ _ _ (pv 5) (@pa_c _ _ _ _ _ (pv 1) (@pa_c _ _ _ _ _ (pv 6) pa_0 (by rfl)) (by rfl)) (by rfl)) (by rfl) (by rfl) (by decide)) (by rfl) (by first | exact .inl rfl | exact .inr rfl))
    (@pss_cons _ _ _ _ _ (@ps_if _ _ _ _ _ _ _ _ (@PW.pt _ _ _ (@pw_or _ _ _ _ _ _ _ (@pt_not _ _ _ _ (@pt_vk _ _ _ (@pe_df _ _ _ _ _ _ _ _ _ _ _ D_law_texts hr (by decide) (by rfl) (@pa_c _ _ _ _ _ (pv 5) (@pa_c _ _ _ _ _ (pv 3) pa_0 (by rfl)) (by rfl)) (by rfl) (by rfl) (by decide)) (by intro _; rfl))) (@pw_or1 _ _ _ _ (@pt_not _ _ _ _ (@pt_vk _ _ _ (@pe_df _ _ _ _ _ _ _ _ _ _ _ D_law_same hr (by decide) (by rfl) (@pa_c _ _ _ _ _ (pv 6) (@pa_c _ _ _ _ _ (pv 4) pa_0 (by rfl)) (by rfl)) (by rfl) (by rfl) (by decide)) (by intro _; rfl)))))) (@pss_one _ _ _ (@ps_ret _ _ _ _ pe_bl)) pss_nil)
    (@pss_cons _ _ _ _ _ (@ps_if _ _ _ _ _ _ _ _ (@PW.pt _ _ _ (@pw_or _ _ _ _ _ _ _ (@pt_not _ _ _ _ (@pt_vk _ _ _ (@pe_isi _ _ _ _ _ _ _ _ B.isinstance B.list PyProof.Rows.boot_list (pv 7) (by rfl) (by rfl) (by rfl) (by decide) (by decide)) (by intro _; rfl))) (@pw_or1 _ _ _ _ (@pt_cmpR _ _ _ _ _ _ _ _ op_ne (@pe_cB _ _ _ _ _ _ _ _ _ call_len_seq (by rfl) B.len PySem.boot_len (@pa_c _ _ _ _ _ (pv 7) pa_0 (by rfl)) (by rfl) (by rfl) (by decide) (by decide)) (@pe_cB _ _ _ _ _ _ _ _ _ call_len_seq (by rfl) B.len PySem.boot_len (@pa_c _ _ _ _ _ (pv 4) pa_0 (by rfl)) (by rfl) (by rfl) (by decide) (by decide)) (nomark _))))) (@pss_one _ _ _ (@ps_ret _ _ _ _ pe_bl)) pss_nil)
    (@pss_cons _ _ _ _ _ (@ps_sk _ _ 8 _ _ _ _ sc_law.nd rfl (Or.inl rfl) (@pe_df _ _ _ _ _ _ _ _ _ _ _ D_law_plainly hr (by decide) (by rfl) (@pa_c _ _ _ _ _ (pv 3) (@pa_c _ _ _ _ _ (pv 1) (@pa_c _ _ _ _ _ (pv 4) pa_0 (by rfl)) (by rfl)) (by rfl)) (by rfl) (by rfl) (by decide)) (by rfl) (by first | exact .inl rfl | exact .inr rfl))
    (@pss_cons _ _ _ _ _ (@ps_fk _ _ _ _ _ _ _ _ PassesOwn.never rfl (@pi_r1 _ _ _ _ _ _ (by rfl) B.range (@pa_c _ _ _ _ _ (@pe_cB _ _ _ _ _ _ _ _ _ call_len_seq (by rfl) B.len PySem.boot_len (@pa_c _ _ _ _ _ (pv 8) pa_0 (by rfl)) (by rfl) (by rfl) (by decide) (by decide)) pa_0 (by rfl)) (by rfl)) (pg_name (i := 9) sc_law.nd rfl (Or.inl rfl))
      (@pss_cons _ _ _ _ _ (@ps_if _ _ _ _ _ _ _ _ (@PW.pt _ _ _ (@pw_or _ _ _ _ _ _ _ (@pt_not _ _ _ _ (@pt_vk _ _ _ (@pe_isi _ _ _ _ _ _ _ _ B.isinstance B.tuple PyProof.Rows.boot_tuple (@pe_ix _ _ _ _ _ _ _ ix_list (pv 7) (pv 9) (fun _ _ => rfl)) (by rfl) (by rfl) (by rfl) (by decide) (by decide)) (by intro _; rfl))) (@pw_or1 _ _ _ _ (@pt_cmpR _ _ _ _ _ _ _ _ op_ne (@pe_cB _ _ _ _ _ _ _ _ _ call_len_seq (by rfl) B.len PySem.boot_len (@pa_c _ _ _ _ _ (@pe_ix _ _ _ _ _ _ _ ix_list (pv 7) (pv 9) (fun _ _ => rfl)) pa_0 (by rfl)) (by rfl) (by rfl) (by decide) (by decide)) pe_int (nomark _))))) (@pss_one _ _ _ (@ps_ret _ _ _ _ pe_bl)) pss_nil)
      (@pss_cons _ _ _ _ _ (@ps_fk _ _ _ _ _ _ _ _ PassesOwn.never rfl (@pi_tup _ _ _ _ (@pe_ix _ _ _ _ _ _ _ ix_list (pv 7) (pv 9) (fun _ _ => rfl))) (pg_name (i := 10) sc_law.nd rfl (Or.inl rfl))
        (@pss_one _ _ _ (@ps_if _ _ _ _ _ _ _ _ (@pt_not _ _ _ _ (@pt_vk _ _ _ (@pe_df _ _ _ _ _ _ _ _ _ _ _ D_law_whole hr (by decide) (by rfl) (@pa_c _ _ _ _ _ (pv 10) pa_0 (by rfl)) (by rfl) (by rfl) (by decide)) (by intro _; rfl))) (@pss_one _ _ _ (@ps_ret _ _ _ _ pe_bl)) pss_nil)) (by intro _; rfl))
      (@pss_one _ _ _ (@ps_if _ _ _ _ _ _ _ _ (@pt_cmpR _ _ _ _ _ _ _ _ (op_neT (hu64 hr)) (@pe_ix _ _ _ _ _ _ _ ix_list (pv 7) (pv 9) (fun _ _ => rfl)) (@pe_ix _ _ _ _ _ _ _ ix_list (pv 8) (pv 9) (fun _ _ => rfl)) (nomark _)) (@pss_one _ _ _ (@ps_ret _ _ _ _ pe_bl)) pss_nil)))) (by intro _; rfl))
    (@pss_one _ _ _ (@ps_ret _ _ _ _ pe_bl))))))))))))), ?_⟩
  -- the width
  refine ⟨_, rfl, a, ns, 0, rfl, hS, _, _, rfl, rfl, ⟨by decide, by decide⟩, _, _, rfl, rfl, (by show (0 : Int) < 100; decide), _, _, rfl, rfl, (by show 10 ≤ sizeLine; decide), fun t1 ht1 => ?_⟩
  have s1 := same_new ht1 (.lst [V.int 1, V.int 2, V.int 3, V.int 2, V.int 4, V.int 1, V.int 3, V.int 9, V.int 17, V.int (1 + at0 ns 0 / 10 % 100)])
  obtain ⟨wd, w1, w2, hwd⟩ := ten_at (at0 ns 0)
  refine ⟨_, rfl, a, ns, 0, rfl, s1.seq hS, _, _, rfl, rfl, (by show (0 : Int) < 10; decide), t1, _, _, _, rfl, rfl, SqL.of upd_same, hwd, ?_⟩
  generalize upd H t1 (.lst [V.int 1, V.int 2, V.int 3, V.int 2, V.int 4, V.int 1, V.int 3, V.int 9, V.int 17, V.int (1 + at0 ns 0 / 10 % 100)]) = H1 at s1 ⊢
  -- how many notes, the notes
  refine ⟨_, rfl, a, ns, 26, 200, rfl, s1.seq hS, h63, ?_⟩
  refine ⟨_, rfl, _, rfl, a, ns, 1, rfl, s1.seq hS, _, rfl, _, _, rfl, rfl, _, _, rfl, rfl, (by show (0 : Int) < 26 + 1; decide), _, _, rfl, rfl, _, rfl, a, ns, 1, rfl, s1.seq hS, _, _, rfl, rfl, ⟨by decide, by decide⟩, _, _, rfl, ?_, ?_, ?_⟩
  · show 0 ≤ 26 - at0 ns 1 % (26 + 1)
    omega
  · show 26 - at0 ns 1 % (26 + 1) ≤ 200
    omega
  intro pn notes H2 hpn s2' hn hnl
  have s2 := s1.trans s2'
  have nl : notes.length ≤ 200 := by omega
  clear hnl
  -- the deeds
  refine ⟨_, rfl, _, rfl, _, rfl, a, _, rfl, s2.seq hS, fun t2 ht2 => ?_⟩
  obtain ⟨ms, ems, hms⟩ := cut_map ns (some 2) (some 202)
  refine ⟨_, rfl, t2, ms, wd, rfl, SqL.of (by rw [← ems]; exact upd_same), w1, w2, by omega, ?_⟩
  intro pd as ds H3 hpd s3' hd DA dl
  have s23 := (same_new ht2 _).trans s3'
  have s3 := s2.trans s23
  have hn3 := s23 _ _ hn
  have dl2 : ds.length ≤ 63 := by omega
  clear dl s3' hpd
  -- copies of both
  refine ⟨_, rfl, pn, _, rfl, .inl (SqL.of hn3), fun pg hpg => ?_⟩
  refine ⟨_, rfl, pd, _, rfl, .inl (SqL.of ((same_new hpg _) _ _ hd)), fun ph hph => ?_⟩
  have s5 := (same_new hpg (.lst (notes.map V.str))).new hph (.lst (as.map V.ref))
  have hg5 : upd (upd H3 pg (.lst (notes.map V.str))) ph (.lst (as.map V.ref)) pg = some (.lst (notes.map V.str)) := by
    rw [upd_ne (ne_of_none upd_same hph)]
    exact upd_same
  have hh5 : upd (upd H3 pg (.lst (notes.map V.str))) ph (.lst (as.map V.ref)) ph = some (.lst (as.map V.ref)) := upd_same
  generalize upd (upd H3 pg (.lst (notes.map V.str))) ph (.lst (as.map V.ref)) = H5 at s5 hg5 hh5 ⊢
  -- the program's day
  refine ⟨_, rfl, _, rfl, _, rfl, pg, ph, wd, notes, as, ds, rfl, ⟨hg5, hh5, DA.same s5, w1, w2, nl, by omega⟩, ?_⟩
  intro pf rs H6 hpf s6' hf hrs hrow
  have s6 := s5.trans s6'
  -- what was handed in stays
  refine ⟨_, rfl, _, rfl, pg, pn, notes, rfl, s6' _ _ hg5, s6 _ _ hn3, by omega, _, rfl, iteB rfl ?_⟩
  have al : as.length = ds.length := DA.len
  refine ⟨_, rfl, _, rfl, ph, pd, as, ds, rfl, s6' _ _ hh5, s6 _ _ hd, DA.same s6, by omega, _, rfl, iteB rfl ?_⟩
  -- a list, as long as the deeds
  refine ⟨_, rfl, _, _, _, _, rfl, .lst hf, kit_same _ _, _, rfl, iteB rfl ?_⟩
  refine ⟨_, rfl, pf, _, rfl, .inl (SqL.of hf), _, rfl, pd, _, rfl, .inl (SqL.of (s6 _ _ hd)), rfl, _, rfl, ?_⟩
  refine iteNS (by rw [List.length_map, List.length_map, hrs, al]) ?_
  -- the day kept beside
  refine ⟨_, rfl, _, rfl, _, rfl, pn, pd, wd, notes, as, ds, rfl, s6 _ _ hn3, s6 _ _ hd, DA.same s6, by omega, w1, ?_⟩
  intro pp rs2 H7 hpp s7 hp2 R2
  refine ⟨_, rfl, pp, _, rfl, .inl (SqL.of hp2), _, rfl, by rw [List.length_map]; have := R2.len; omega, by rw [List.length_map]; have := R2.len; omega, ?_⟩
  have hf7 := s7 _ _ hf
  refine for_range (fun i σ H' => H' = H7 ∧ ∃ v9 v10, σ = [some (.ref a), some (.int wd), some (.int 26), some (.ref pn), some (.ref pd), some (.ref pg), some (.ref ph), some (.ref pf), some (.ref pp), v9, v10]) ⟨rfl, none, none, rfl⟩ ?_ ?_
  · rintro i σ H' hi ⟨rfl, v9, v10, rfl⟩
    have hi2 : i < ds.length := by rw [List.length_map, R2.len] at hi; omega
    obtain ⟨t, ht, htt⟩ := hrow i hi2
    obtain ⟨u, hu, huu⟩ := R2.has i hi2
    have T1 := SqT.of (K := K) (s7 _ _ htt)
    have T2 := SqT.of (K := K) huu
    rw [rowV_eq] at T2
    have e0 : (0 : Int) + (i : Int) = (i : Int) := Int.zero_add _
    rw [e0]
    have e1 : atI (rs.map V.ref) (i : Int) = some (.ref t) := atI_nat (by rw [List.getElem?_map, ht] <;> rfl)
    have e2 : atI (rs2.map V.ref) (i : Int) = some (.ref u) := atI_nat (by rw [List.getElem?_map, hu] <;> rfl)
    refine ⟨_, rfl, _, rfl, pf, _, _, _, rfl, rfl, SqL.of hf7, e1, _, _, _, _, rfl, .tup (s7 _ _ htt), kit_same _ _, _, rfl, iteB rfl ?_⟩
    refine ⟨_, rfl, _, rfl, pf, _, _, _, rfl, rfl, SqL.of hf7, e1, t, _, rfl, .inr T1, rfl, _, rfl, iteNS rfl ?_⟩
    refine ⟨_, rfl, _, rfl, pf, _, _, _, rfl, rfl, SqL.of hf7, e1, t, rfl, ⟨_, T1⟩, for_tup (K := K) (a := t) (xs := (mRow (mAt notes wd ds (i + 1))).map V.int) (fun j σ H'' => H'' = H' ∧ ∃ v10, σ = [some (.ref a), some (.int wd), some (.int 26), some (.ref pn), some (.ref pd), some (.ref pg), some (.ref ph), some (.ref pf), some (.ref pp), some (.int i), v10]) ⟨rfl, v10, rfl⟩ (fun j σ H'' _ z => by rw [z.1]; exact T1) ?_ ?_⟩
    · rintro j x σ H'' hx ⟨rfl, v10', rfl⟩
      rw [List.getElem?_map] at hx
      obtain ⟨z, _, rfl⟩ := Option.map_eq_some_iff.mp hx
      refine ⟨_, rfl, z, rfl, _, rfl, iteB rfl ?_⟩
      exact ⟨rfl, _, rfl⟩
    · rintro σ H'' ⟨rfl, v10', rfl⟩
      refine ⟨_, rfl, _, rfl, pf, _, _, _, rfl, rfl, SqL.of hf7, e1, _, rfl, _, rfl, pp, _, _, _, rfl, rfl, SqL.of hp2, e2, t, u, _, _, rfl, rfl, T1, T2, _, rfl, ?_⟩
      refine iteNS (row_eq w1 _) ?_
      exact ⟨rfl, _, _, rfl⟩
  · rintro σ H' ⟨rfl, v9, v10, rfl⟩
    exact q _
end
end Fh

set_option Elab.async false
set_option linter.all false
set_option maxRecDepth 100000
set_option maxHeartbeats 4000000
namespace Fh
open PySem L2 Fd
theorem all_mk {l : PySem.W.OpenLaw} {w : World} {K : PySem.W.Frag} {h : Heap} {mg : Str → Option Value} {fa : Addr} 
    {CL : Addr}
    {CD : Addr}
    {CN : Addr}
    {f_mark_of : Addr} {od_mark_of an_mark_of : Option Addr} {sl_mark_of : Array (Option Value)} {oc_mark_of kV_mark_of dc_mark_of pm_mark_of cd_mark_of ct_mark_of : Value}
    {f_steps_on : Addr} {od_steps_on an_steps_on : Option Addr} {sl_steps_on : Array (Option Value)} {oc_steps_on kV_steps_on dc_steps_on pm_steps_on cd_steps_on ct_steps_on : Value}
    {f_heard : Addr} {od_heard an_heard : Option Addr} {sl_heard : Array (Option Value)} {oc_heard kV_heard dc_heard pm_heard cd_heard ct_heard : Value}
    {f_laid : Addr} {od_laid an_laid : Option Addr} {sl_laid : Array (Option Value)} {oc_laid kV_laid dc_laid pm_laid cd_laid ct_laid : Value}
    {f_Line__init : Addr} {od_Line__init an_Line__init : Option Addr} {sl_Line__init : Array (Option Value)} {oc_Line__init kV_Line__init dc_Line__init pm_Line__init cd_Line__init ct_Line__init : Value}
    {f_Line_how_many : Addr} {od_Line_how_many an_Line_how_many : Option Addr} {sl_Line_how_many : Array (Option Value)} {oc_Line_how_many kV_Line_how_many dc_Line_how_many pm_Line_how_many cd_Line_how_many ct_Line_how_many : Value}
    {f_Line_is_empty : Addr} {od_Line_is_empty an_Line_is_empty : Option Addr} {sl_Line_is_empty : Array (Option Value)} {oc_Line_is_empty kV_Line_is_empty dc_Line_is_empty pm_Line_is_empty cd_Line_is_empty ct_Line_is_empty : Value}
    {f_Line_give : Addr} {od_Line_give an_Line_give : Option Addr} {sl_Line_give : Array (Option Value)} {oc_Line_give kV_Line_give dc_Line_give pm_Line_give cd_Line_give ct_Line_give : Value}
    {f_Line_take_foremost : Addr} {od_Line_take_foremost an_Line_take_foremost : Option Addr} {sl_Line_take_foremost : Array (Option Value)} {oc_Line_take_foremost kV_Line_take_foremost dc_Line_take_foremost pm_Line_take_foremost cd_Line_take_foremost ct_Line_take_foremost : Value}
    {f_Line_double_foremost : Addr} {od_Line_double_foremost an_Line_double_foremost : Option Addr} {sl_Line_double_foremost : Array (Option Value)} {oc_Line_double_foremost kV_Line_double_foremost dc_Line_double_foremost pm_Line_double_foremost cd_Line_double_foremost ct_Line_double_foremost : Value}
    {f_lost_on : Addr} {od_lost_on an_lost_on : Option Addr} {sl_lost_on : Array (Option Value)} {oc_lost_on kV_lost_on dc_lost_on pm_lost_on cd_lost_on ct_lost_on : Value}
    {f_doubled_on : Addr} {od_doubled_on an_doubled_on : Option Addr} {sl_doubled_on : Array (Option Value)} {oc_doubled_on kV_doubled_on dc_doubled_on pm_doubled_on cd_doubled_on ct_doubled_on : Value}
    {f_Day__init : Addr} {od_Day__init an_Day__init : Option Addr} {sl_Day__init : Array (Option Value)} {oc_Day__init kV_Day__init dc_Day__init pm_Day__init cd_Day__init ct_Day__init : Value}
    {f_begun : Addr} {od_begun an_begun : Option Addr} {sl_begun : Array (Option Value)} {oc_begun kV_begun dc_begun pm_begun cd_begun ct_begun : Value}
    {f_tell : Addr} {od_tell an_tell : Option Addr} {sl_tell : Array (Option Value)} {oc_tell kV_tell dc_tell pm_tell cd_tell ct_tell : Value}
    {f_come : Addr} {od_come an_come : Option Addr} {sl_come : Array (Option Value)} {oc_come kV_come dc_come pm_come cd_come ct_come : Value}
    {f_answer : Addr} {od_answer an_answer : Option Addr} {sl_answer : Array (Option Value)} {oc_answer kV_answer dc_answer pm_answer cd_answer ct_answer : Value}
    {f_come_back : Addr} {od_come_back an_come_back : Option Addr} {sl_come_back : Array (Option Value)} {oc_come_back kV_come_back dc_come_back pm_come_back cd_come_back ct_come_back : Value}
    {f_done : Addr} {od_done an_done : Option Addr} {sl_done : Array (Option Value)} {oc_done kV_done dc_done pm_done cd_done ct_done : Value}
    {f_state : Addr} {od_state an_state : Option Addr} {sl_state : Array (Option Value)} {oc_state kV_state dc_state pm_state cd_state ct_state : Value}
    {f_states : Addr} {od_states an_states : Option Addr} {sl_states : Array (Option Value)} {oc_states kV_states dc_states pm_states cd_states ct_states : Value}
    {f_law_at : Addr} {od_law_at an_law_at : Option Addr} {sl_law_at : Array (Option Value)} {oc_law_at kV_law_at dc_law_at pm_law_at cd_law_at ct_law_at : Value}
    {f_law_room : Addr} {od_law_room an_law_room : Option Addr} {sl_law_room : Array (Option Value)} {oc_law_room kV_law_room dc_law_room pm_law_room cd_law_room ct_law_room : Value}
    {f_law_whole : Addr} {od_law_whole an_law_whole : Option Addr} {sl_law_whole : Array (Option Value)} {oc_law_whole kV_law_whole dc_law_whole pm_law_whole cd_law_whole ct_law_whole : Value}
    {f_law_letters : Addr} {od_law_letters an_law_letters : Option Addr} {sl_law_letters : Array (Option Value)} {oc_law_letters kV_law_letters dc_law_letters pm_law_letters cd_law_letters ct_law_letters : Value}
    {f_law_deeds : Addr} {od_law_deeds an_law_deeds : Option Addr} {sl_law_deeds : Array (Option Value)} {oc_law_deeds kV_law_deeds dc_law_deeds pm_law_deeds cd_law_deeds ct_law_deeds : Value}
    {f_law_texts : Addr} {od_law_texts an_law_texts : Option Addr} {sl_law_texts : Array (Option Value)} {oc_law_texts kV_law_texts dc_law_texts pm_law_texts cd_law_texts ct_law_texts : Value}
    {f_law_same : Addr} {od_law_same an_law_same : Option Addr} {sl_law_same : Array (Option Value)} {oc_law_same kV_law_same dc_law_same pm_law_same cd_law_same ct_law_same : Value}
    {f_law_plainly : Addr} {od_law_plainly an_law_plainly : Option Addr} {sl_law_plainly : Array (Option Value)} {oc_law_plainly kV_law_plainly dc_law_plainly pm_law_plainly cd_law_plainly ct_law_plainly : Value}
    {f_law : Addr} {od_law an_law : Option Addr} {sl_law : Array (Option Value)} {oc_law kV_law dc_law pm_law cd_law ct_law : Value} (X : K.In h) (G : h.Ns mainGlobals mg) (hfa : mg "law" = some (.ref fa))
    (a_Line : PySem.W.nsIn K mainGlobals "Line" = some (some (.ref CL)))
    (pg_Line : PySem.W.plainGet K CL Str.empty = true)
    (hd_Line : PySem.W.hasDictIn K CL = true)
    (po_Line : PySem.W.plainOver K CL = true)
    (sa_Line : PySem.W.findIn K (.ref CL) "__setattr__" = some (some (.builtin "object.__setattr__")))
    (mk_Line : PySem.W.makesIn K CL = true)
    (kc_Line : PySem.W.keepIn K (.ref CL) = true)
    (n_Line_underway : PySem.W.findIn K (.ref CL) "underway" = some none)
    (a_Day : PySem.W.nsIn K mainGlobals "Day" = some (some (.ref CD)))
    (pg_Day : PySem.W.plainGet K CD Str.empty = true)
    (hd_Day : PySem.W.hasDictIn K CD = true)
    (po_Day : PySem.W.plainOver K CD = true)
    (sa_Day : PySem.W.findIn K (.ref CD) "__setattr__" = some (some (.builtin "object.__setattr__")))
    (mk_Day : PySem.W.makesIn K CD = true)
    (kc_Day : PySem.W.keepIn K (.ref CD) = true)
    (n_Day_notes : PySem.W.findIn K (.ref CD) "notes" = some none)
    (n_Day_width : PySem.W.findIn K (.ref CD) "width" = some none)
    (n_Day_first : PySem.W.findIn K (.ref CD) "first" = some none)
    (n_Day_handed : PySem.W.findIn K (.ref CD) "handed" = some none)
    (n_Day_shelf : PySem.W.findIn K (.ref CD) "shelf" = some none)
    (n_Day_there : PySem.W.findIn K (.ref CD) "there" = some none)
    (n_Day_back : PySem.W.findIn K (.ref CD) "back" = some none)
    (a_NoWidth : PySem.W.nsIn K mainGlobals "NoWidth" = some (some (.ref CN)))
    (q_NoWidth : PySem.W.excIn K CN veMro "ValueError.__new__" = true)
    (a_mark_of : PySem.W.nsIn K mainGlobals "mark_of" = some (some (.ref f_mark_of)))
    (l_mark_of : K.lookup f_mark_of = some ⟨oc_mark_of, od_mark_of, .func (PySem.W.fnOf "mark_of" "mark_of" (defArgs s_mark_of) (defBody s_mark_of) (defScope s_mark_of) .none kV_mark_of dc_mark_of pm_mark_of an_mark_of cd_mark_of ct_mark_of), sl_mark_of⟩)
    (c_mark_of : PySem.W.codeIn K cd_mark_of "mark_of" = true)
    (k_mark_of : PySem.W.keepIn K (.ref f_mark_of) = true)
    (a_steps_on : PySem.W.nsIn K mainGlobals "steps_on" = some (some (.ref f_steps_on)))
    (l_steps_on : K.lookup f_steps_on = some ⟨oc_steps_on, od_steps_on, .func (PySem.W.fnOf "steps_on" "steps_on" (defArgs s_steps_on) (defBody s_steps_on) (defScope s_steps_on) .none kV_steps_on dc_steps_on pm_steps_on an_steps_on cd_steps_on ct_steps_on), sl_steps_on⟩)
    (c_steps_on : PySem.W.codeIn K cd_steps_on "steps_on" = true)
    (k_steps_on : PySem.W.keepIn K (.ref f_steps_on) = true)
    (a_heard : PySem.W.nsIn K mainGlobals "heard" = some (some (.ref f_heard)))
    (l_heard : K.lookup f_heard = some ⟨oc_heard, od_heard, .func (PySem.W.fnOf "heard" "heard" (defArgs s_heard) (defBody s_heard) (defScope s_heard) .none kV_heard dc_heard pm_heard an_heard cd_heard ct_heard), sl_heard⟩)
    (c_heard : PySem.W.codeIn K cd_heard "heard" = true)
    (k_heard : PySem.W.keepIn K (.ref f_heard) = true)
    (a_laid : PySem.W.nsIn K mainGlobals "laid" = some (some (.ref f_laid)))
    (l_laid : K.lookup f_laid = some ⟨oc_laid, od_laid, .func (PySem.W.fnOf "laid" "laid" (defArgs s_laid) (defBody s_laid) (defScope s_laid) .none kV_laid dc_laid pm_laid an_laid cd_laid ct_laid), sl_laid⟩)
    (c_laid : PySem.W.codeIn K cd_laid "laid" = true)
    (k_laid : PySem.W.keepIn K (.ref f_laid) = true)
    (a_Line__init : PySem.W.findIn K (.ref CL) "__init__" = some (some (.ref f_Line__init)))
    (i_Line__init : PySem.W.isFn K (.ref f_Line__init) = true)
    (l_Line__init : K.lookup f_Line__init = some ⟨oc_Line__init, od_Line__init, .func (PySem.W.fnOf "__init__" "Line.__init__" (defArgs s_Line__init) (defBody s_Line__init) (defScope s_Line__init) .none kV_Line__init dc_Line__init pm_Line__init an_Line__init cd_Line__init ct_Line__init), sl_Line__init⟩)
    (c_Line__init : PySem.W.codeIn K cd_Line__init "Line.__init__" = true)
    (k_Line__init : PySem.W.keepIn K (.ref f_Line__init) = true)
    (a_Line_how_many : PySem.W.findIn K (.ref CL) "how_many" = some (some (.ref f_Line_how_many)))
    (i_Line_how_many : PySem.W.isFn K (.ref f_Line_how_many) = true)
    (l_Line_how_many : K.lookup f_Line_how_many = some ⟨oc_Line_how_many, od_Line_how_many, .func (PySem.W.fnOf "how_many" "Line.how_many" (defArgs s_Line_how_many) (defBody s_Line_how_many) (defScope s_Line_how_many) .none kV_Line_how_many dc_Line_how_many pm_Line_how_many an_Line_how_many cd_Line_how_many ct_Line_how_many), sl_Line_how_many⟩)
    (c_Line_how_many : PySem.W.codeIn K cd_Line_how_many "Line.how_many" = true)
    (k_Line_how_many : PySem.W.keepIn K (.ref f_Line_how_many) = true)
    (a_Line_is_empty : PySem.W.findIn K (.ref CL) "is_empty" = some (some (.ref f_Line_is_empty)))
    (i_Line_is_empty : PySem.W.isFn K (.ref f_Line_is_empty) = true)
    (l_Line_is_empty : K.lookup f_Line_is_empty = some ⟨oc_Line_is_empty, od_Line_is_empty, .func (PySem.W.fnOf "is_empty" "Line.is_empty" (defArgs s_Line_is_empty) (defBody s_Line_is_empty) (defScope s_Line_is_empty) .none kV_Line_is_empty dc_Line_is_empty pm_Line_is_empty an_Line_is_empty cd_Line_is_empty ct_Line_is_empty), sl_Line_is_empty⟩)
    (c_Line_is_empty : PySem.W.codeIn K cd_Line_is_empty "Line.is_empty" = true)
    (k_Line_is_empty : PySem.W.keepIn K (.ref f_Line_is_empty) = true)
    (a_Line_give : PySem.W.findIn K (.ref CL) "give" = some (some (.ref f_Line_give)))
    (i_Line_give : PySem.W.isFn K (.ref f_Line_give) = true)
    (l_Line_give : K.lookup f_Line_give = some ⟨oc_Line_give, od_Line_give, .func (PySem.W.fnOf "give" "Line.give" (defArgs s_Line_give) (defBody s_Line_give) (defScope s_Line_give) .none kV_Line_give dc_Line_give pm_Line_give an_Line_give cd_Line_give ct_Line_give), sl_Line_give⟩)
    (c_Line_give : PySem.W.codeIn K cd_Line_give "Line.give" = true)
    (k_Line_give : PySem.W.keepIn K (.ref f_Line_give) = true)
    (a_Line_take_foremost : PySem.W.findIn K (.ref CL) "take_foremost" = some (some (.ref f_Line_take_foremost)))
    (i_Line_take_foremost : PySem.W.isFn K (.ref f_Line_take_foremost) = true)
    (l_Line_take_foremost : K.lookup f_Line_take_foremost = some ⟨oc_Line_take_foremost, od_Line_take_foremost, .func (PySem.W.fnOf "take_foremost" "Line.take_foremost" (defArgs s_Line_take_foremost) (defBody s_Line_take_foremost) (defScope s_Line_take_foremost) .none kV_Line_take_foremost dc_Line_take_foremost pm_Line_take_foremost an_Line_take_foremost cd_Line_take_foremost ct_Line_take_foremost), sl_Line_take_foremost⟩)
    (c_Line_take_foremost : PySem.W.codeIn K cd_Line_take_foremost "Line.take_foremost" = true)
    (k_Line_take_foremost : PySem.W.keepIn K (.ref f_Line_take_foremost) = true)
    (a_Line_double_foremost : PySem.W.findIn K (.ref CL) "double_foremost" = some (some (.ref f_Line_double_foremost)))
    (i_Line_double_foremost : PySem.W.isFn K (.ref f_Line_double_foremost) = true)
    (l_Line_double_foremost : K.lookup f_Line_double_foremost = some ⟨oc_Line_double_foremost, od_Line_double_foremost, .func (PySem.W.fnOf "double_foremost" "Line.double_foremost" (defArgs s_Line_double_foremost) (defBody s_Line_double_foremost) (defScope s_Line_double_foremost) .none kV_Line_double_foremost dc_Line_double_foremost pm_Line_double_foremost an_Line_double_foremost cd_Line_double_foremost ct_Line_double_foremost), sl_Line_double_foremost⟩)
    (c_Line_double_foremost : PySem.W.codeIn K cd_Line_double_foremost "Line.double_foremost" = true)
    (k_Line_double_foremost : PySem.W.keepIn K (.ref f_Line_double_foremost) = true)
    (a_lost_on : PySem.W.nsIn K mainGlobals "lost_on" = some (some (.ref f_lost_on)))
    (l_lost_on : K.lookup f_lost_on = some ⟨oc_lost_on, od_lost_on, .func (PySem.W.fnOf "lost_on" "lost_on" (defArgs s_lost_on) (defBody s_lost_on) (defScope s_lost_on) .none kV_lost_on dc_lost_on pm_lost_on an_lost_on cd_lost_on ct_lost_on), sl_lost_on⟩)
    (c_lost_on : PySem.W.codeIn K cd_lost_on "lost_on" = true)
    (k_lost_on : PySem.W.keepIn K (.ref f_lost_on) = true)
    (a_doubled_on : PySem.W.nsIn K mainGlobals "doubled_on" = some (some (.ref f_doubled_on)))
    (l_doubled_on : K.lookup f_doubled_on = some ⟨oc_doubled_on, od_doubled_on, .func (PySem.W.fnOf "doubled_on" "doubled_on" (defArgs s_doubled_on) (defBody s_doubled_on) (defScope s_doubled_on) .none kV_doubled_on dc_doubled_on pm_doubled_on an_doubled_on cd_doubled_on ct_doubled_on), sl_doubled_on⟩)
    (c_doubled_on : PySem.W.codeIn K cd_doubled_on "doubled_on" = true)
    (k_doubled_on : PySem.W.keepIn K (.ref f_doubled_on) = true)
    (a_Day__init : PySem.W.findIn K (.ref CD) "__init__" = some (some (.ref f_Day__init)))
    (i_Day__init : PySem.W.isFn K (.ref f_Day__init) = true)
    (l_Day__init : K.lookup f_Day__init = some ⟨oc_Day__init, od_Day__init, .func (PySem.W.fnOf "__init__" "Day.__init__" (defArgs s_Day__init) (defBody s_Day__init) (defScope s_Day__init) .none kV_Day__init dc_Day__init pm_Day__init an_Day__init cd_Day__init ct_Day__init), sl_Day__init⟩)
    (c_Day__init : PySem.W.codeIn K cd_Day__init "Day.__init__" = true)
    (k_Day__init : PySem.W.keepIn K (.ref f_Day__init) = true)
    (a_begun : PySem.W.nsIn K mainGlobals "begun" = some (some (.ref f_begun)))
    (l_begun : K.lookup f_begun = some ⟨oc_begun, od_begun, .func (PySem.W.fnOf "begun" "begun" (defArgs s_begun) (defBody s_begun) (defScope s_begun) .none kV_begun dc_begun pm_begun an_begun cd_begun ct_begun), sl_begun⟩)
    (c_begun : PySem.W.codeIn K cd_begun "begun" = true)
    (k_begun : PySem.W.keepIn K (.ref f_begun) = true)
    (a_tell : PySem.W.nsIn K mainGlobals "tell" = some (some (.ref f_tell)))
    (l_tell : K.lookup f_tell = some ⟨oc_tell, od_tell, .func (PySem.W.fnOf "tell" "tell" (defArgs s_tell) (defBody s_tell) (defScope s_tell) .none kV_tell dc_tell pm_tell an_tell cd_tell ct_tell), sl_tell⟩)
    (c_tell : PySem.W.codeIn K cd_tell "tell" = true)
    (k_tell : PySem.W.keepIn K (.ref f_tell) = true)
    (a_come : PySem.W.nsIn K mainGlobals "come" = some (some (.ref f_come)))
    (l_come : K.lookup f_come = some ⟨oc_come, od_come, .func (PySem.W.fnOf "come" "come" (defArgs s_come) (defBody s_come) (defScope s_come) .none kV_come dc_come pm_come an_come cd_come ct_come), sl_come⟩)
    (c_come : PySem.W.codeIn K cd_come "come" = true)
    (k_come : PySem.W.keepIn K (.ref f_come) = true)
    (a_answer : PySem.W.nsIn K mainGlobals "answer" = some (some (.ref f_answer)))
    (l_answer : K.lookup f_answer = some ⟨oc_answer, od_answer, .func (PySem.W.fnOf "answer" "answer" (defArgs s_answer) (defBody s_answer) (defScope s_answer) .none kV_answer dc_answer pm_answer an_answer cd_answer ct_answer), sl_answer⟩)
    (c_answer : PySem.W.codeIn K cd_answer "answer" = true)
    (k_answer : PySem.W.keepIn K (.ref f_answer) = true)
    (a_come_back : PySem.W.nsIn K mainGlobals "come_back" = some (some (.ref f_come_back)))
    (l_come_back : K.lookup f_come_back = some ⟨oc_come_back, od_come_back, .func (PySem.W.fnOf "come_back" "come_back" (defArgs s_come_back) (defBody s_come_back) (defScope s_come_back) .none kV_come_back dc_come_back pm_come_back an_come_back cd_come_back ct_come_back), sl_come_back⟩)
    (c_come_back : PySem.W.codeIn K cd_come_back "come_back" = true)
    (k_come_back : PySem.W.keepIn K (.ref f_come_back) = true)
    (a_done : PySem.W.nsIn K mainGlobals "done" = some (some (.ref f_done)))
    (l_done : K.lookup f_done = some ⟨oc_done, od_done, .func (PySem.W.fnOf "done" "done" (defArgs s_done) (defBody s_done) (defScope s_done) .none kV_done dc_done pm_done an_done cd_done ct_done), sl_done⟩)
    (c_done : PySem.W.codeIn K cd_done "done" = true)
    (k_done : PySem.W.keepIn K (.ref f_done) = true)
    (a_state : PySem.W.nsIn K mainGlobals "state" = some (some (.ref f_state)))
    (l_state : K.lookup f_state = some ⟨oc_state, od_state, .func (PySem.W.fnOf "state" "state" (defArgs s_state) (defBody s_state) (defScope s_state) .none kV_state dc_state pm_state an_state cd_state ct_state), sl_state⟩)
    (c_state : PySem.W.codeIn K cd_state "state" = true)
    (k_state : PySem.W.keepIn K (.ref f_state) = true)
    (a_states : PySem.W.nsIn K mainGlobals "states" = some (some (.ref f_states)))
    (l_states : K.lookup f_states = some ⟨oc_states, od_states, .func (PySem.W.fnOf "states" "states" (defArgs s_states) (defBody s_states) (defScope s_states) .none kV_states dc_states pm_states an_states cd_states ct_states), sl_states⟩)
    (c_states : PySem.W.codeIn K cd_states "states" = true)
    (k_states : PySem.W.keepIn K (.ref f_states) = true)
    (a_law_at : PySem.W.nsIn K mainGlobals "_law_at" = some (some (.ref f_law_at)))
    (l_law_at : K.lookup f_law_at = some ⟨oc_law_at, od_law_at, .func (PySem.W.fnOf "_law_at" "_law_at" (defArgs s_law_at) (defBody s_law_at) (defScope s_law_at) .none kV_law_at dc_law_at pm_law_at an_law_at cd_law_at ct_law_at), sl_law_at⟩)
    (c_law_at : PySem.W.codeIn K cd_law_at "_law_at" = true)
    (k_law_at : PySem.W.keepIn K (.ref f_law_at) = true)
    (a_law_room : PySem.W.nsIn K mainGlobals "_law_room" = some (some (.ref f_law_room)))
    (l_law_room : K.lookup f_law_room = some ⟨oc_law_room, od_law_room, .func (PySem.W.fnOf "_law_room" "_law_room" (defArgs s_law_room) (defBody s_law_room) (defScope s_law_room) .none kV_law_room dc_law_room pm_law_room an_law_room cd_law_room ct_law_room), sl_law_room⟩)
    (c_law_room : PySem.W.codeIn K cd_law_room "_law_room" = true)
    (k_law_room : PySem.W.keepIn K (.ref f_law_room) = true)
    (a_law_whole : PySem.W.nsIn K mainGlobals "_law_whole" = some (some (.ref f_law_whole)))
    (l_law_whole : K.lookup f_law_whole = some ⟨oc_law_whole, od_law_whole, .func (PySem.W.fnOf "_law_whole" "_law_whole" (defArgs s_law_whole) (defBody s_law_whole) (defScope s_law_whole) .none kV_law_whole dc_law_whole pm_law_whole an_law_whole cd_law_whole ct_law_whole), sl_law_whole⟩)
    (c_law_whole : PySem.W.codeIn K cd_law_whole "_law_whole" = true)
    (k_law_whole : PySem.W.keepIn K (.ref f_law_whole) = true)
    (a_law_letters : PySem.W.nsIn K mainGlobals "_law_letters" = some (some (.ref f_law_letters)))
    (l_law_letters : K.lookup f_law_letters = some ⟨oc_law_letters, od_law_letters, .func (PySem.W.fnOf "_law_letters" "_law_letters" (defArgs s_law_letters) (defBody s_law_letters) (defScope s_law_letters) .none kV_law_letters dc_law_letters pm_law_letters an_law_letters cd_law_letters ct_law_letters), sl_law_letters⟩)
    (c_law_letters : PySem.W.codeIn K cd_law_letters "_law_letters" = true)
    (k_law_letters : PySem.W.keepIn K (.ref f_law_letters) = true)
    (a_law_deeds : PySem.W.nsIn K mainGlobals "_law_deeds" = some (some (.ref f_law_deeds)))
    (l_law_deeds : K.lookup f_law_deeds = some ⟨oc_law_deeds, od_law_deeds, .func (PySem.W.fnOf "_law_deeds" "_law_deeds" (defArgs s_law_deeds) (defBody s_law_deeds) (defScope s_law_deeds) .none kV_law_deeds dc_law_deeds pm_law_deeds an_law_deeds cd_law_deeds ct_law_deeds), sl_law_deeds⟩)
    (c_law_deeds : PySem.W.codeIn K cd_law_deeds "_law_deeds" = true)
    (k_law_deeds : PySem.W.keepIn K (.ref f_law_deeds) = true)
    (a_law_texts : PySem.W.nsIn K mainGlobals "_law_texts" = some (some (.ref f_law_texts)))
    (l_law_texts : K.lookup f_law_texts = some ⟨oc_law_texts, od_law_texts, .func (PySem.W.fnOf "_law_texts" "_law_texts" (defArgs s_law_texts) (defBody s_law_texts) (defScope s_law_texts) .none kV_law_texts dc_law_texts pm_law_texts an_law_texts cd_law_texts ct_law_texts), sl_law_texts⟩)
    (c_law_texts : PySem.W.codeIn K cd_law_texts "_law_texts" = true)
    (k_law_texts : PySem.W.keepIn K (.ref f_law_texts) = true)
    (a_law_same : PySem.W.nsIn K mainGlobals "_law_same" = some (some (.ref f_law_same)))
    (l_law_same : K.lookup f_law_same = some ⟨oc_law_same, od_law_same, .func (PySem.W.fnOf "_law_same" "_law_same" (defArgs s_law_same) (defBody s_law_same) (defScope s_law_same) .none kV_law_same dc_law_same pm_law_same an_law_same cd_law_same ct_law_same), sl_law_same⟩)
    (c_law_same : PySem.W.codeIn K cd_law_same "_law_same" = true)
    (k_law_same : PySem.W.keepIn K (.ref f_law_same) = true)
    (a_law_plainly : PySem.W.nsIn K mainGlobals "_law_plainly" = some (some (.ref f_law_plainly)))
    (l_law_plainly : K.lookup f_law_plainly = some ⟨oc_law_plainly, od_law_plainly, .func (PySem.W.fnOf "_law_plainly" "_law_plainly" (defArgs s_law_plainly) (defBody s_law_plainly) (defScope s_law_plainly) .none kV_law_plainly dc_law_plainly pm_law_plainly an_law_plainly cd_law_plainly ct_law_plainly), sl_law_plainly⟩)
    (c_law_plainly : PySem.W.codeIn K cd_law_plainly "_law_plainly" = true)
    (k_law_plainly : PySem.W.keepIn K (.ref f_law_plainly) = true)
    (a_law : PySem.W.nsIn K mainGlobals "law" = some (some (.ref f_law)))
    (l_law : K.lookup f_law = some ⟨oc_law, od_law, .func (PySem.W.fnOf "law" "law" (defArgs s_law) (defBody s_law) (defScope s_law) .none kV_law dc_law pm_law an_law cd_law ct_law), sl_law⟩)
    (c_law : PySem.W.codeIn K cd_law "law" = true)
    (k_law : PySem.W.keepIn K (.ref f_law) = true)
    (z_len : PySem.W.nsIn K mainGlobals "len" = some none)
    (z_range : PySem.W.nsIn K mainGlobals "range" = some none)
    (z_isinstance : PySem.W.nsIn K mainGlobals "isinstance" = some none)
    (z_int : PySem.W.nsIn K mainGlobals "int" = some none)
    (z_bool : PySem.W.nsIn K mainGlobals "bool" = some none)
    (z_str : PySem.W.nsIn K mainGlobals "str" = some none)
    (z_list : PySem.W.nsIn K mainGlobals "list" = some none)
    (z_tuple : PySem.W.nsIn K mainGlobals "tuple" = some none)
    (z_max : PySem.W.nsIn K mainGlobals "max" = some none) :
    ∃ fd : FuncData, (∀ (s : Shared) (v : Value), BindsTo s fd ⟨[v], []⟩ [("_law_script", v)]) ∧ ∀ base : Heap, K.In base → base.Ns mainGlobals mg → FnOk l.prog w K mg base CX0 21 fa fd ["_law_script"] (sp_law K) := by
  have e := hfa.symm.trans (PySem.W.mg_of X G a_law)
  cases e
  have T_Line : TxL K CL := ⟨⟨pg_Line, hd_Line, po_Line, sa_Line⟩, n_Line_underway⟩
  have T_Day : TxD K CD := ⟨⟨pg_Day, hd_Day, po_Day, sa_Day⟩, n_Day_notes, n_Day_width, n_Day_first, n_Day_handed, n_Day_shelf, n_Day_there, n_Day_back⟩
  have m_NoWidth := PySem.W.mg_of X G a_NoWidth
  have F_mark_of := fun_mk (st := s_mark_of) l_mark_of c_mark_of k_mark_of
  have F_steps_on := fun_mk (st := s_steps_on) l_steps_on c_steps_on k_steps_on
  have F_heard := fun_mk (st := s_heard) l_heard c_heard k_heard
  have F_laid := fun_mk (st := s_laid) l_laid c_laid k_laid
  have F_Line__init := fun_mk (st := s_Line__init) l_Line__init c_Line__init k_Line__init
  have F_Line_how_many := fun_mk (st := s_Line_how_many) l_Line_how_many c_Line_how_many k_Line_how_many
  have F_Line_is_empty := fun_mk (st := s_Line_is_empty) l_Line_is_empty c_Line_is_empty k_Line_is_empty
  have F_Line_give := fun_mk (st := s_Line_give) l_Line_give c_Line_give k_Line_give
  have F_Line_take_foremost := fun_mk (st := s_Line_take_foremost) l_Line_take_foremost c_Line_take_foremost k_Line_take_foremost
  have F_Line_double_foremost := fun_mk (st := s_Line_double_foremost) l_Line_double_foremost c_Line_double_foremost k_Line_double_foremost
  have F_lost_on := fun_mk (st := s_lost_on) l_lost_on c_lost_on k_lost_on
  have F_doubled_on := fun_mk (st := s_doubled_on) l_doubled_on c_doubled_on k_doubled_on
  have F_Day__init := fun_mk (st := s_Day__init) l_Day__init c_Day__init k_Day__init
  have F_begun := fun_mk (st := s_begun) l_begun c_begun k_begun
  have F_tell := fun_mk (st := s_tell) l_tell c_tell k_tell
  have F_come := fun_mk (st := s_come) l_come c_come k_come
  have F_answer := fun_mk (st := s_answer) l_answer c_answer k_answer
  have F_come_back := fun_mk (st := s_come_back) l_come_back c_come_back k_come_back
  have F_done := fun_mk (st := s_done) l_done c_done k_done
  have F_state := fun_mk (st := s_state) l_state c_state k_state
  have F_states := fun_mk (st := s_states) l_states c_states k_states
  have F_law_at := fun_mk (st := s_law_at) l_law_at c_law_at k_law_at
  have F_law_room := fun_mk (st := s_law_room) l_law_room c_law_room k_law_room
  have F_law_whole := fun_mk (st := s_law_whole) l_law_whole c_law_whole k_law_whole
  have F_law_letters := fun_mk (st := s_law_letters) l_law_letters c_law_letters k_law_letters
  have F_law_deeds := fun_mk (st := s_law_deeds) l_law_deeds c_law_deeds k_law_deeds
  have F_law_texts := fun_mk (st := s_law_texts) l_law_texts c_law_texts k_law_texts
  have F_law_same := fun_mk (st := s_law_same) l_law_same c_law_same k_law_same
  have F_law_plainly := fun_mk (st := s_law_plainly) l_law_plainly c_law_plainly k_law_plainly
  have F_law := fun_mk (st := s_law) l_law c_law k_law
  have b_mark_of := F_mark_of.binds (ps := ["number", "width"]) fun _ _ _ _ _ _ us hl => match us, hl with | [_, _], _ => rfl
  have b_steps_on := F_steps_on.binds (ps := ["number", "mark", "width"]) fun _ _ _ _ _ _ us hl => match us, hl with | [_, _, _], _ => rfl
  have b_heard := F_heard.binds (ps := ["first", "mark", "width"]) fun _ _ _ _ _ _ us hl => match us, hl with | [_, _, _], _ => rfl
  have b_laid := F_laid.binds (ps := ["handed", "shelf", "mark", "note"]) fun _ _ _ _ _ _ us hl => match us, hl with | [_, _, _, _], _ => rfl
  have b_Line__init := F_Line__init.binds (ps := ["self"]) fun _ _ _ _ _ _ us hl => match us, hl with | [_], _ => rfl
  have b_Line_how_many := F_Line_how_many.binds (ps := ["self"]) fun _ _ _ _ _ _ us hl => match us, hl with | [_], _ => rfl
  have b_Line_is_empty := F_Line_is_empty.binds (ps := ["self"]) fun _ _ _ _ _ _ us hl => match us, hl with | [_], _ => rfl
  have b_Line_give := F_Line_give.binds (ps := ["self", "thing"]) fun _ _ _ _ _ _ us hl => match us, hl with | [_, _], _ => rfl
  have b_Line_take_foremost := F_Line_take_foremost.binds (ps := ["self"]) fun _ _ _ _ _ _ us hl => match us, hl with | [_], _ => rfl
  have b_Line_double_foremost := F_Line_double_foremost.binds (ps := ["self"]) fun _ _ _ _ _ _ us hl => match us, hl with | [_], _ => rfl
  have b_lost_on := F_lost_on.binds (ps := ["line"]) fun _ _ _ _ _ _ us hl => match us, hl with | [_], _ => rfl
  have b_doubled_on := F_doubled_on.binds (ps := ["line"]) fun _ _ _ _ _ _ us hl => match us, hl with | [_], _ => rfl
  have b_Day__init := F_Day__init.binds (ps := ["self", "notes", "width"]) fun _ _ _ _ _ _ us hl => match us, hl with | [_, _, _], _ => rfl
  have b_begun := F_begun.binds (ps := ["notes", "width"]) fun _ _ _ _ _ _ us hl => match us, hl with | [_, _], _ => rfl
  have b_tell := F_tell.binds (ps := ["day", "step"]) fun _ _ _ _ _ _ us hl => match us, hl with | [_, _], _ => rfl
  have b_come := F_come.binds (ps := ["day"]) fun _ _ _ _ _ _ us hl => match us, hl with | [_], _ => rfl
  have b_answer := F_answer.binds (ps := ["day"]) fun _ _ _ _ _ _ us hl => match us, hl with | [_], _ => rfl
  have b_come_back := F_come_back.binds (ps := ["day"]) fun _ _ _ _ _ _ us hl => match us, hl with | [_], _ => rfl
  have b_done := F_done.binds (ps := ["day", "deed"]) fun _ _ _ _ _ _ us hl => match us, hl with | [_, _], _ => rfl
  have b_state := F_state.binds (ps := ["day"]) fun _ _ _ _ _ _ us hl => match us, hl with | [_], _ => rfl
  have b_states := F_states.binds (ps := ["notes", "width", "deeds"]) fun _ _ _ _ _ _ us hl => match us, hl with | [_, _, _], _ => rfl
  have b_law_at := F_law_at.binds (ps := ["_law_script", "_law_k"]) fun _ _ _ _ _ _ us hl => match us, hl with | [_, _], _ => rfl
  have b_law_room := F_law_room.binds (ps := ["_law_script", "_law_most", "_law_bound"]) fun _ _ _ _ _ _ us hl => match us, hl with | [_, _, _], _ => rfl
  have b_law_whole := F_law_whole.binds (ps := ["_law_found"]) fun _ _ _ _ _ _ us hl => match us, hl with | [_], _ => rfl
  have b_law_letters := F_law_letters.binds (ps := ["_law_many", "_law_gap"]) fun _ _ _ _ _ _ us hl => match us, hl with | [_, _], _ => rfl
  have b_law_deeds := F_law_deeds.binds (ps := ["_law_cells", "_law_width"]) fun _ _ _ _ _ _ us hl => match us, hl with | [_, _], _ => rfl
  have b_law_texts := F_law_texts.binds (ps := ["_law_found", "_law_due"]) fun _ _ _ _ _ _ us hl => match us, hl with | [_, _], _ => rfl
  have b_law_same := F_law_same.binds (ps := ["_law_handed", "_law_asked"]) fun _ _ _ _ _ _ us hl => match us, hl with | [_, _], _ => rfl
  have b_law_plainly := F_law_plainly.binds (ps := ["_law_notes", "_law_width", "_law_asked"]) fun _ _ _ _ _ _ us hl => match us, hl with | [_, _, _], _ => rfl
  have B : Bt mg := ⟨PySem.W.mg_none_of X G z_len, PySem.W.mg_none_of X G z_range, PySem.W.mg_none_of X G z_isinstance, PySem.W.mg_none_of X G z_int, PySem.W.mg_none_of X G z_bool, PySem.W.mg_none_of X G z_str, PySem.W.mg_none_of X G z_list, PySem.W.mg_none_of X G z_tuple, PySem.W.mg_none_of X G z_max⟩
  refine ⟨PySem.W.fnOf "law" "law" (defArgs s_law) (defBody s_law) (defScope s_law) .none kV_law dc_law pm_law an_law cd_law ct_law, fun s v => .of_eq rfl, fun base kb nb => ?_⟩
  have D_mark_of : Df l.prog w K mg base "mark_of" 1 ["number", "width"] sp_mark_of := ⟨⟨f_mark_of, _, PySem.W.mg_of X G a_mark_of, k_mark_of, b_mark_of, ok_mark_of F_mark_of⟩⟩
  have D_steps_on : Df l.prog w K mg base "steps_on" 1 ["number", "mark", "width"] sp_steps_on := ⟨⟨f_steps_on, _, PySem.W.mg_of X G a_steps_on, k_steps_on, b_steps_on, ok_steps_on F_steps_on⟩⟩
  have D_heard : Df l.prog w K mg base "heard" 2 ["first", "mark", "width"] sp_heard := ⟨⟨f_heard, _, PySem.W.mg_of X G a_heard, k_heard, b_heard, ok_heard D_steps_on F_heard⟩⟩
  have D_laid : Df l.prog w K mg base "laid" 2 ["handed", "shelf", "mark", "note"] sp_laidW := ⟨⟨f_laid, _, PySem.W.mg_of X G a_laid, k_laid, b_laid, ok_laid B D_steps_on F_laid⟩⟩
  have C_Line : Mc l.prog w K mg base "Line" CL 1 ["self"] (sp_line_init CL) := ⟨f_Line__init, _, ⟨mk_Line, a_Line__init, i_Line__init, kc_Line⟩, PySem.W.mg_of X G a_Line, b_Line__init, ok_line_init T_Line F_Line__init⟩
  have M_how_many : Mt l.prog w K mg base CL "how_many" 1 ["self"] (sp_how_many CL) := ⟨T_Line.cl, f_Line_how_many, _, ⟨a_Line_how_many, i_Line_how_many, k_Line_how_many⟩, b_Line_how_many, ok_how_many B T_Line F_Line_how_many⟩
  have M_is_empty : Mt l.prog w K mg base CL "is_empty" 1 ["self"] (sp_is_empty CL) := ⟨T_Line.cl, f_Line_is_empty, _, ⟨a_Line_is_empty, i_Line_is_empty, k_Line_is_empty⟩, b_Line_is_empty, ok_is_empty B T_Line F_Line_is_empty⟩
  have M_give : Mt l.prog w K mg base CL "give" 1 ["self", "thing"] (sp_give CL) := ⟨T_Line.cl, f_Line_give, _, ⟨a_Line_give, i_Line_give, k_Line_give⟩, b_Line_give, ok_give T_Line F_Line_give⟩
  have M_take_foremost : Mt l.prog w K mg base CL "take_foremost" 1 ["self"] (sp_take CL) := ⟨T_Line.cl, f_Line_take_foremost, _, ⟨a_Line_take_foremost, i_Line_take_foremost, k_Line_take_foremost⟩, b_Line_take_foremost, ok_take T_Line F_Line_take_foremost⟩
  have M_double_foremost : Mt l.prog w K mg base CL "double_foremost" 1 ["self"] (sp_double CL) := ⟨T_Line.cl, f_Line_double_foremost, _, ⟨a_Line_double_foremost, i_Line_double_foremost, k_Line_double_foremost⟩, b_Line_double_foremost, ok_double T_Line F_Line_double_foremost⟩
  have D_lost_on : Df l.prog w K mg base "lost_on" 2 ["line"] (sp_lost_on CL) := ⟨⟨f_lost_on, _, PySem.W.mg_of X G a_lost_on, k_lost_on, b_lost_on, ok_lost_on M_is_empty M_take_foremost F_lost_on⟩⟩
  have D_doubled_on : Df l.prog w K mg base "doubled_on" 2 ["line"] (sp_doubled_on CL) := ⟨⟨f_doubled_on, _, PySem.W.mg_of X G a_doubled_on, k_doubled_on, b_doubled_on, ok_doubled_on M_is_empty M_double_foremost F_doubled_on⟩⟩
  have C_Day : Mc l.prog w K mg base "Day" CD 3 ["self", "notes", "width"] (sp_day_init CD CL) := ⟨f_Day__init, _, ⟨mk_Day, a_Day__init, i_Day__init, kc_Day⟩, PySem.W.mg_of X G a_Day, b_Day__init, ok_day_init T_Day C_Line F_Day__init⟩
  have D_begun : Dx l.prog w K mg base "begun" 5 ["notes", "width"] (sp_begun CD CL CN) := ⟨⟨f_begun, _, PySem.W.mg_of X G a_begun, k_begun, b_begun, ok_begun q_NoWidth m_NoWidth C_Day F_begun⟩⟩
  have D_tell : Df l.prog w K mg base "tell" 2 ["day", "step"] (sp_tell CD CL) := ⟨⟨f_tell, _, PySem.W.mg_of X G a_tell, k_tell, b_tell, ok_tell B T_Day D_mark_of M_give F_tell⟩⟩
  have D_come : Df l.prog w K mg base "come" 3 ["day"] (sp_deed CD CL .come) := ⟨⟨f_come, _, PySem.W.mg_of X G a_come, k_come, b_come, ok_come T_Day D_laid M_is_empty M_take_foremost F_come⟩⟩
  have D_answer : Df l.prog w K mg base "answer" 2 ["day"] (sp_deed CD CL .answer) := ⟨⟨f_answer, _, PySem.W.mg_of X G a_answer, k_answer, b_answer, ok_answer B T_Day D_mark_of M_give F_answer⟩⟩
  have D_come_back : Df l.prog w K mg base "come_back" 3 ["day"] (sp_deed CD CL .comeB) := ⟨⟨f_come_back, _, PySem.W.mg_of X G a_come_back, k_come_back, b_come_back, ok_come_back T_Day D_heard M_is_empty M_take_foremost F_come_back⟩⟩
  have D_done : Df l.prog w K mg base "done" 4 ["day", "deed"] (sp_done CD CL) := ⟨⟨f_done, _, PySem.W.mg_of X G a_done, k_done, b_done, ok_done T_Day D_tell D_come D_answer D_come_back D_lost_on D_doubled_on F_done⟩⟩
  have D_state : Df l.prog w K mg base "state" 2 ["day"] (sp_state CD CL) := ⟨⟨f_state, _, PySem.W.mg_of X G a_state, k_state, b_state, ok_state B T_Day M_how_many F_state⟩⟩
  have X_states : Dx l.prog w K mg base "states" 6 ["notes", "width", "deeds"] (raising CN sp_states) := ⟨⟨f_states, _, PySem.W.mg_of X G a_states, k_states, b_states, ok_states D_begun D_done D_state F_states⟩⟩
  have D_states : Df l.prog w K mg base "states" 20 ["notes", "width", "deeds"] sp_states := ⟨⟨f_states, _, PySem.W.mg_of X G a_states, k_states, b_states, ((ok_states D_begun D_done D_state F_states).calm fun _ _ _ _ h => .inr h).mono (by decide)⟩⟩
  have D_law_at : Df l.prog w K mg base "_law_at" 1 ["_law_script", "_law_k"] (sp_at K) := ⟨⟨f_law_at, _, PySem.W.mg_of X G a_law_at, k_law_at, b_law_at, ok_at B F_law_at⟩⟩
  have D_law_room : Df l.prog w K mg base "_law_room" 1 ["_law_script", "_law_most", "_law_bound"] (sp_room K) := ⟨⟨f_law_room, _, PySem.W.mg_of X G a_law_room, k_law_room, b_law_room, ok_room B F_law_room⟩⟩
  have D_law_whole : Df l.prog w K mg base "_law_whole" 1 ["_law_found"] sp_whole := ⟨⟨f_law_whole, _, PySem.W.mg_of X G a_law_whole, k_law_whole, b_law_whole, ok_whole B F_law_whole⟩⟩
  have D_law_letters : Df l.prog w K mg base "_law_letters" 1 ["_law_many", "_law_gap"] sp_letters := ⟨⟨f_law_letters, _, PySem.W.mg_of X G a_law_letters, k_law_letters, b_law_letters, ok_letters B F_law_letters⟩⟩
  have D_law_deeds : Df l.prog w K mg base "_law_deeds" 1 ["_law_cells", "_law_width"] (sp_deeds K) := ⟨⟨f_law_deeds, _, PySem.W.mg_of X G a_law_deeds, k_law_deeds, b_law_deeds, ok_deeds B F_law_deeds⟩⟩
  have D_law_texts : Df l.prog w K mg base "_law_texts" 1 ["_law_found", "_law_due"] sp_texts := ⟨⟨f_law_texts, _, PySem.W.mg_of X G a_law_texts, k_law_texts, b_law_texts, ok_texts B F_law_texts⟩⟩
  have D_law_same : Df l.prog w K mg base "_law_same" 2 ["_law_handed", "_law_asked"] sp_same := ⟨⟨f_law_same, _, PySem.W.mg_of X G a_law_same, k_law_same, b_law_same, ok_same B D_law_whole F_law_same⟩⟩
  have D_law_plainly : Df l.prog w K mg base "_law_plainly" 1 ["_law_notes", "_law_width", "_law_asked"] sp_plainly := ⟨⟨f_law_plainly, _, PySem.W.mg_of X G a_law_plainly, k_law_plainly, b_law_plainly, ok_plainly B F_law_plainly⟩⟩
  exact ok_law B D_law_at D_law_room D_law_whole D_law_letters D_law_deeds D_law_texts D_law_same D_law_plainly D_states F_law
theorem walk {l : PySem.W.OpenLaw} {q : Program} {loose : List Str} {XP : (Str → Option Value) → Heap → Prop} {YP : World → Heap → Prop} {d : DefRec} {K : Params → PySem.W.Frag} (hn : l.most = some 63) (hdf : d.params.defaults = [])
    (hY : ∀ (w : World) (h : Heap), YP w h → (K w.params).In h)
    (F : ∀ (w : World) (mg : Str → Option Value) (fa : Addr) (h : Heap), (K w.params).In h → h.Ns mainGlobals mg → mg d.name = some (.ref fa) →
      ∃ fd : FuncData, (∀ (s : Shared) (u : Value), BindsTo s fd ⟨[u], []⟩ [("_law_script", u)]) ∧ ∀ base : Heap, (K w.params).In base → base.Ns mainGlobals mg → FnOk l.prog w (K w.params) mg base CX0 21 fa fd ["_law_script"] (sp_law (K w.params))) :
    PySem.W.WalkO q loose XP YP l.row.toRowW d [] (fun f vs => PySem.call f vs) :=
  L2.walk_of (n := 63) (k := 21) (x := "_law_script") (CX := fun _ => CX0) (sp := fun w => sp_law (K w.params)) hn (by decide) hdf ⟨rfl, by decide, by decide⟩ hY F (fun _ _ a ns hl _ hS => ⟨a, ns, rfl, hS, hl, fun _ => rfl⟩) fun _ _ _ _ _ z => z
end Fh
open PySem PySem.W PyProof.Rows
set_option maxRecDepth 100000 in
set_option maxHeartbeats 0 in
theorem PySem.Challenge.cw_flaghill_k06_whole_as_by_numbers_holds : PySem.Challenge.rw_flaghill_k06_whole_as_by_numbers.Holds := by
  w_on; o_law; k_head; (case hw => w_witness2)
  k_fill
  refine Fh.walk (l := PySem.Challenge.rw_flaghill_k06_whole_as_by_numbers) rfl rfl (fun w h Y => PySem.W.kIn_of Y) ?F
  case F =>
    intro w mg fa h KX G hmg
    refine' Fh.all_mk KX G hmg ?a_Line ?pg_Line ?hd_Line ?po_Line ?sa_Line ?mk_Line ?kc_Line ?n_Line_underway ?a_Day ?pg_Day ?hd_Day ?po_Day ?sa_Day ?mk_Day ?kc_Day ?n_Day_notes ?n_Day_width ?n_Day_first ?n_Day_handed ?n_Day_shelf ?n_Day_there ?n_Day_back ?a_NoWidth ?q_NoWidth ?a_mark_of ?l_mark_of ?c_mark_of ?k_mark_of ?a_steps_on ?l_steps_on ?c_steps_on ?k_steps_on ?a_heard ?l_heard ?c_heard ?k_heard ?a_laid ?l_laid ?c_laid ?k_laid ?a_Line__init ?i_Line__init ?l_Line__init ?c_Line__init ?k_Line__init ?a_Line_how_many ?i_Line_how_many ?l_Line_how_many ?c_Line_how_many ?k_Line_how_many ?a_Line_is_empty ?i_Line_is_empty ?l_Line_is_empty ?c_Line_is_empty ?k_Line_is_empty ?a_Line_give ?i_Line_give ?l_Line_give ?c_Line_give ?k_Line_give ?a_Line_take_foremost ?i_Line_take_foremost ?l_Line_take_foremost ?c_Line_take_foremost ?k_Line_take_foremost ?a_Line_double_foremost ?i_Line_double_foremost ?l_Line_double_foremost ?c_Line_double_foremost ?k_Line_double_foremost ?a_lost_on ?l_lost_on ?c_lost_on ?k_lost_on ?a_doubled_on ?l_doubled_on ?c_doubled_on ?k_doubled_on ?a_Day__init ?i_Day__init ?l_Day__init ?c_Day__init ?k_Day__init ?a_begun ?l_begun ?c_begun ?k_begun ?a_tell ?l_tell ?c_tell ?k_tell ?a_come ?l_come ?c_come ?k_come ?a_answer ?l_answer ?c_answer ?k_answer ?a_come_back ?l_come_back ?c_come_back ?k_come_back ?a_done ?l_done ?c_done ?k_done ?a_state ?l_state ?c_state ?k_state ?a_states ?l_states ?c_states ?k_states ?a_law_at ?l_law_at ?c_law_at ?k_law_at ?a_law_room ?l_law_room ?c_law_room ?k_law_room ?a_law_whole ?l_law_whole ?c_law_whole ?k_law_whole ?a_law_letters ?l_law_letters ?c_law_letters ?k_law_letters ?a_law_deeds ?l_law_deeds ?c_law_deeds ?k_law_deeds ?a_law_texts ?l_law_texts ?c_law_texts ?k_law_texts ?a_law_same ?l_law_same ?c_law_same ?k_law_same ?a_law_plainly ?l_law_plainly ?c_law_plainly ?k_law_plainly ?a_law ?l_law ?c_law ?k_law ?z_len ?z_range ?z_isinstance ?z_int ?z_bool ?z_str ?z_list ?z_tuple ?z_max
    (case a_Line => k_is)
    (case pg_Line => k_is)
    (case hd_Line => k_is)
    (case po_Line => k_is)
    (case sa_Line => k_is)
    (case mk_Line => k_is)
    (case kc_Line => k_is)
    (case n_Line_underway => k_is)
    (case a_Day => k_is)
    (case pg_Day => k_is)
    (case hd_Day => k_is)
    (case po_Day => k_is)
    (case sa_Day => k_is)
    (case mk_Day => k_is)
    (case kc_Day => k_is)
    (case n_Day_notes => k_is)
    (case n_Day_width => k_is)
    (case n_Day_first => k_is)
    (case n_Day_handed => k_is)
    (case n_Day_shelf => k_is)
    (case n_Day_there => k_is)
    (case n_Day_back => k_is)
    (case a_NoWidth => k_is)
    (case q_NoWidth => k_exc)
    (case a_mark_of => k_is)
    (case l_mark_of => k_is)
    (case c_mark_of => k_is)
    (case k_mark_of => k_is)
    (case a_steps_on => k_is)
    (case l_steps_on => k_is)
    (case c_steps_on => k_is)
    (case k_steps_on => k_is)
    (case a_heard => k_is)
    (case l_heard => k_is)
    (case c_heard => k_is)
    (case k_heard => k_is)
    (case a_laid => k_is)
    (case l_laid => k_is)
    (case c_laid => k_is)
    (case k_laid => k_is)
    (case a_Line__init => k_is)
    (case i_Line__init => k_is)
    (case l_Line__init => k_is)
    (case c_Line__init => k_is)
    (case k_Line__init => k_is)
    (case a_Line_how_many => k_is)
    (case i_Line_how_many => k_is)
    (case l_Line_how_many => k_is)
    (case c_Line_how_many => k_is)
    (case k_Line_how_many => k_is)
    (case a_Line_is_empty => k_is)
    (case i_Line_is_empty => k_is)
    (case l_Line_is_empty => k_is)
    (case c_Line_is_empty => k_is)
    (case k_Line_is_empty => k_is)
    (case a_Line_give => k_is)
    (case i_Line_give => k_is)
    (case l_Line_give => k_is)
    (case c_Line_give => k_is)
    (case k_Line_give => k_is)
    (case a_Line_take_foremost => k_is)
    (case i_Line_take_foremost => k_is)
    (case l_Line_take_foremost => k_is)
    (case c_Line_take_foremost => k_is)
    (case k_Line_take_foremost => k_is)
    (case a_Line_double_foremost => k_is)
    (case i_Line_double_foremost => k_is)
    (case l_Line_double_foremost => k_is)
    (case c_Line_double_foremost => k_is)
    (case k_Line_double_foremost => k_is)
    (case a_lost_on => k_is)
    (case l_lost_on => k_is)
    (case c_lost_on => k_is)
    (case k_lost_on => k_is)
    (case a_doubled_on => k_is)
    (case l_doubled_on => k_is)
    (case c_doubled_on => k_is)
    (case k_doubled_on => k_is)
    (case a_Day__init => k_is)
    (case i_Day__init => k_is)
    (case l_Day__init => k_is)
    (case c_Day__init => k_is)
    (case k_Day__init => k_is)
    (case a_begun => k_is)
    (case l_begun => k_is)
    (case c_begun => k_is)
    (case k_begun => k_is)
    (case a_tell => k_is)
    (case l_tell => k_is)
    (case c_tell => k_is)
    (case k_tell => k_is)
    (case a_come => k_is)
    (case l_come => k_is)
    (case c_come => k_is)
    (case k_come => k_is)
    (case a_answer => k_is)
    (case l_answer => k_is)
    (case c_answer => k_is)
    (case k_answer => k_is)
    (case a_come_back => k_is)
    (case l_come_back => k_is)
    (case c_come_back => k_is)
    (case k_come_back => k_is)
    (case a_done => k_is)
    (case l_done => k_is)
    (case c_done => k_is)
    (case k_done => k_is)
    (case a_state => k_is)
    (case l_state => k_is)
    (case c_state => k_is)
    (case k_state => k_is)
    (case a_states => k_is)
    (case l_states => k_is)
    (case c_states => k_is)
    (case k_states => k_is)
    (case a_law_at => k_is)
    (case l_law_at => k_is)
    (case c_law_at => k_is)
    (case k_law_at => k_is)
    (case a_law_room => k_is)
    (case l_law_room => k_is)
    (case c_law_room => k_is)
    (case k_law_room => k_is)
    (case a_law_whole => k_is)
    (case l_law_whole => k_is)
    (case c_law_whole => k_is)
    (case k_law_whole => k_is)
    (case a_law_letters => k_is)
    (case l_law_letters => k_is)
    (case c_law_letters => k_is)
    (case k_law_letters => k_is)
    (case a_law_deeds => k_is)
    (case l_law_deeds => k_is)
    (case c_law_deeds => k_is)
    (case k_law_deeds => k_is)
    (case a_law_texts => k_is)
    (case l_law_texts => k_is)
    (case c_law_texts => k_is)
    (case k_law_texts => k_is)
    (case a_law_same => k_is)
    (case l_law_same => k_is)
    (case c_law_same => k_is)
    (case k_law_same => k_is)
    (case a_law_plainly => k_is)
    (case l_law_plainly => k_is)
    (case c_law_plainly => k_is)
    (case k_law_plainly => k_is)
    (case a_law => k_is)
    (case l_law => k_is)
    (case c_law => k_is)
    (case k_law => k_is)
    (case z_len => k_is)
    (case z_range => k_is)
    (case z_isinstance => k_is)
    (case z_int => k_is)
    (case z_bool => k_is)
    (case z_str => k_is)
    (case z_list => k_is)
    (case z_tuple => k_is)
    (case z_max => k_is)
#print axioms PySem.Challenge.cw_flaghill_k06_whole_as_by_numbers_holds

