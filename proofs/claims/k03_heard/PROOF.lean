import PyProof.Rows.All
import Wide.All
import OpenK.AllK
import Wide.FinOn
import PySem.Challenge.RW_flaghill_k03_heard
set_option Elab.async false
set_option linter.all false
namespace Fh
open PySem PySem.W PySem.Calls PyProof.Rows
/-- where the counting ends -/
def goal (w mark first : Int) : Int := first + (mark - first) % (w + w)
/-- two rests of one round are one -/
theorem near {m d : Int} (hm : 0 < m) (lo : -m < m * d) (hi : m * d < m) : d = 0 := by
  rcases (by omega : d = 0 ∨ 1 ≤ d ∨ d ≤ -1) with e | e | e
  · exact e
  · have := Int.mul_le_mul_of_nonneg_left e (Int.le_of_lt hm)
    omega
  · have := Int.mul_le_mul_of_nonneg_left e (Int.le_of_lt hm)
    omega
theorem one {m a b r t : Int} (hm : 0 < m) (e : m * a + r = m * b + t) (r0 : 0 ≤ r) (r1 : r < m) (t0 : 0 ≤ t) (t1 : t < m) : r = t := by
  have f : m * (a - b) = m * a - m * b := Int.mul_sub m a b
  have z := near (d := a - b) hm (by omega) (by omega)
  rw [z] at f
  omega
theorem goal_is {w mark first : Int} (h : 1 ≤ w) : ∃ k s : Int, mark - first = (w + w) * k + s ∧ 0 ≤ s ∧ s < w + w ∧ goal w mark first = first + s :=
  ⟨(mark - first) / (w + w), (mark - first) % (w + w), (Int.mul_ediv_add_emod _ _).symm, Int.emod_nonneg _ (by omega), Int.emod_lt_of_pos _ (by omega), rfl⟩
structure Up (w mark first due : Int) : Prop where
  lo : first ≤ due
  hi : due ≤ goal w mark first
theorem up0 {w mark first : Int} (h : 1 ≤ w) (m0 : 0 ≤ mark) (m1 : mark < w + w) : (1 : Int) ≤ w ∧ (0 : Int) ≤ mark ∧ mark < w + w ∧ Up w mark first first := by
  obtain ⟨k, s, e, s0, s1, g⟩ := goal_is (mark := mark) (first := first) h
  exact ⟨h, m0, m1, by omega, by omega⟩
theorem up_ne {w mark first due k r : Int} (U : Up w mark first due) (e : due = (w + w) * k + r) (h : 1 ≤ w) (m0 : 0 ≤ mark) (m1 : mark < w + w) (r0 : 0 ≤ r) (r1 : r < w + w) (ne : ¬ r = mark) : due + 1 ≤ goal w mark first := by
  obtain ⟨k2, s, e2, s0, s1, g⟩ := goal_is (mark := mark) (first := first) h
  have hi := U.hi
  rcases (by omega : due = goal w mark first ∨ due + 1 ≤ goal w mark first) with z | z
  · have f : (w + w) * (0 - k2) = (w + w) * 0 - (w + w) * k2 := Int.mul_sub ..
    have f0 : (w + w) * 0 = 0 := Int.mul_zero _
    exact absurd (one (m := w + w) (a := k) (b := 0 - k2) (t := mark) (by omega) (by omega) r0 r1 m0 m1) ne
  · exact z
theorem upOn {w mark first due k r : Int} (U : Up w mark first due) (e : due = (w + w) * k + r) (h : 1 ≤ w) (m0 : 0 ≤ mark) (m1 : mark < w + w) (r0 : 0 ≤ r) (r1 : r < w + w) (ne : ¬ r = mark) : (1 : Int) ≤ w ∧ (0 : Int) ≤ mark ∧ mark < w + w ∧ Up w mark first (due + 1) := by
  have := up_ne U e h m0 m1 r0 r1 ne
  have lo := U.lo
  exact ⟨h, m0, m1, by omega, this⟩
theorem lessOn {w mark first due k r : Int} (U : Up w mark first due) (e : due = (w + w) * k + r) (h : 1 ≤ w) (m0 : 0 ≤ mark) (m1 : mark < w + w) (r0 : 0 ≤ r) (r1 : r < w + w) (ne : ¬ r = mark) : (goal w mark first - (due + 1)).toNat < (goal w mark first - due).toNat := by
  have := up_ne U e h m0 m1 r0 r1 ne
  omega
theorem found {w mark first due k r k' s : Int} (e' : mark - first = 2 * w * k' + s) (U : Up w mark first due) (e : due = (w + w) * k + r) (hr : r = mark) (h : 1 ≤ w) (m0 : 0 ≤ mark) (m1 : mark < w + w) (s0 : 0 ≤ s) (s1 : s < 2 * w) : first + s = due := by
  obtain ⟨k2, s2, e2, s20, s21, g⟩ := goal_is (mark := mark) (first := first) h
  have ww : 2 * w = w + w := by omega
  rw [ww] at e'
  have lo := U.lo
  have hi := U.hi
  have es : s = s2 := one (m := w + w) (a := k') (b := k2) (by omega) (by omega) s0 (by omega) s20 s21
  have f2 : (w + w) * (k + k2) = (w + w) * k + (w + w) * k2 := Int.mul_add ..
  have z := near (m := w + w) (d := k + k2) (by omega) (by omega) (by omega)
  rw [z, Int.mul_zero] at f2
  omega
theorem restSteps {m g s p k k' r : Int} (e : g + s - p = m * k' + r) (h : p - g = m * k + s) (hm : 0 < m) (r0 : 0 ≤ r) (r1 : r < m) : r = 0 := by
  have z : m * (0 - k) = m * 0 - m * k := Int.mul_sub ..
  exact one (m := m) (a := k') (b := 0 - k) (t := 0) hm (by omega) r0 r1 (by omega) hm
section
variable {prog : Program} {w : World} {A : Around} {E : Value → Shared → Prop} {s : Shared} {x y : Int} {t u : Tok} {Q : Value → Shared → Prop}
theorem quot (x y : Int) : x = y * Int.fdiv x y + Int.fmod x y := by
  rw [Int.fmod_def]
  omega
theorem step_mod (hy : 0 < y) (h : ∀ k r, x = y * k + r → 0 ≤ r → r < y → Q (.int r s.toks) { s with toks := s.toks + 1 }) :
    wpAny (model prog w) A (binaryOp .Mod (.int x t) (.int y u)) Q E s :=
  PyProof.Rows.mod_int (by omega) (h _ _ (quot x y) (Int.fmod_nonneg_of_pos x hy) (Int.fmod_lt_of_pos x hy))
theorem big_ok : IntMulOk (10 ^ 50) (10 ^ 50) := IntMulOk.of_bits (by decide +kernel) (by decide +kernel)
theorem big_pos : (1 : Int) < 10 ^ 50 * 10 ^ 50 := by decide +kernel
theorem step_big (hx : x = 10 ^ 50) (hy : y = 10 ^ 50) (h : ∀ m : Int, 1 < m → Q (.int m s.toks) { s with toks := s.toks + 1 }) :
    wpAny (model prog w) A (binaryOp .Mult (.int x t) (.int y u)) Q E s := by
  subst hx hy
  exact PyProof.Rows.mul_int (h _ big_pos) big_ok
theorem step_ne (e : x = y) (h : Q (.bool false) s) : wpAny (model prog w) A (compareOp .NotEq (.int x t) (.int y u)) Q E s := by
  refine PyProof.Rows.ne_int ?_
  have d : (x != y) = false := by simp [e]
  rw [d]
  exact h
end
end Fh
open PySem PySem.W PyProof.Rows
local macro_rules | `(tactic| walk_at "binaryOp Mod int int") => `(tactic| (k_here; (with_reducible refine' Fh.step_mod ?k1 ?_); (case k1 => k_dflt (first | omega | decide)); intro k' r' e' hr0 hr1))
local macro_rules | `(tactic| walk_at "binaryOp Mult int int") => `(tactic| (k_here; (with_reducible refine' Fh.step_big ?k1 ?k2 ?_); (case k1 => k_dflt (first | rfl | decide +kernel)); (case k2 => k_dflt (first | rfl | decide +kernel)); intro m' hm'))
local macro_rules | `(tactic| walk_at "compareOp NotEq int int") => `(tactic| (k_here; (with_reducible refine' Fh.step_ne ?k1 ?_); (case k1 => k_dflt (first | exact Fh.found (by assumption) (by assumption) (by assumption) (by omega) (by omega) (by omega) (by omega) (by omega) (by omega) | exact Fh.restSteps (by assumption) (by assumption) (by omega) (by omega) (by omega)))))
example : Int → Int → Int → List Int → Int → Prop := fun w mark first _ due => 1 ≤ w ∧ 0 ≤ mark ∧ mark < w + w ∧ Fh.Up w mark first due
set_option maxRecDepth 100000 in
set_option maxHeartbeats 8000000 in
theorem PySem.Challenge.cw_flaghill_k03_heard_holds : PySem.Challenge.rw_flaghill_k03_heard.Holds := by
  k_with "state" => k_dflt (first
    | exact Fh.up0 (by omega) (by omega) (by omega)
    | exact Fh.upOn (by assumption) (by assumption) (by omega) (by omega) (by omega) (by omega) (by omega) (by omega))
  k_with "measure" => k_dflt (exact Fh.lessOn (by assumption) (by assumption) (by omega) (by omega) (by omega) (by omega) (by omega) (by omega))
  k_with "exec While Compare cons nil" => k_while_given ["_law_width", "_law_mark", "_law_first"] (fun w mark first _ due => 1 ≤ w ∧ 0 ≤ mark ∧ mark < w + w ∧ Fh.Up w mark first due) (fun w mark first _ due => (Fh.goal w mark first - due).toNat) "_law_due"
  open_k
#print axioms PySem.Challenge.cw_flaghill_k03_heard_holds
