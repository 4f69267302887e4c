import PyProof.Rows.All
import Wide.All
import OpenK.AllK
import Wide.FinOn
import PySem.Challenge.RW_flaghill_k01_marks
set_option Elab.async false
set_option linter.all false
namespace Fh
open PySem PySem.W PySem.Calls PyProof.Rows
/-- the count of the turns so far and the number that is counted round -/
structure Cnt (w : Int) (pre : List Int) (due : Int) : Prop where
  is : ∃ q : Int, (pre.length : Int) = (w + w) * q + due
theorem cnt0 {w : Int} (h : 1 ≤ w) : (1 : Int) ≤ w ∧ (0 : Int) ≤ 0 ∧ (0 : Int) < w + w ∧ Cnt w [] 0 :=
  ⟨h, by omega, by omega, ⟨0, by simp⟩⟩
theorem cntUp {w due v : Int} {pre : List Int} (H : Cnt w pre due) (h : 1 ≤ w) (h0 : 0 ≤ due) (h1 : due < w + w) (hn : ¬ due + 1 = w + w) :
    (1 : Int) ≤ w ∧ (0 : Int) ≤ due + 1 ∧ due + 1 < w + w ∧ Cnt w (pre ++ [v]) (due + 1) := by
  obtain ⟨q, e⟩ := H.is
  have l : (pre ++ [v]).length = pre.length + 1 := by simp
  exact ⟨h, by omega, by omega, ⟨q, by omega⟩⟩
theorem cntOver {w due v : Int} {pre : List Int} (H : Cnt w pre due) (h : 1 ≤ w) (h0 : 0 ≤ due) (h1 : due < w + w) (hn : due + 1 = w + w) :
    (1 : Int) ≤ w ∧ (0 : Int) ≤ 0 ∧ (0 : Int) < w + w ∧ Cnt w (pre ++ [v]) 0 := by
  obtain ⟨q, e⟩ := H.is
  have l : (pre ++ [v]).length = pre.length + 1 := by simp
  refine ⟨h, by omega, by omega, ⟨q + 1, ?_⟩⟩
  have m : (w + w) * (q + 1) = (w + w) * q + (w + w) := by rw [Int.mul_add, Int.mul_one]
  omega
/-- the way round so far -/
structure Way (w mark due steps spot : Int) : Prop where
  is : (spot = due + steps ∧ (due ≤ mark → spot ≤ mark)) ∨ (spot = due + steps - (w + w) ∧ mark < due ∧ spot ≤ mark)
theorem way0 {w mark due : Int} (h0 : 0 ≤ due) (h1 : due < w + w) (m0 : 0 ≤ mark) (m1 : mark < w + w) :
    (0 : Int) ≤ mark ∧ mark < w + w ∧ (0 : Int) ≤ 0 ∧ 0 ≤ due ∧ due < w + w ∧ Way w mark due 0 due :=
  ⟨m0, m1, by omega, h0, h1, ⟨.inl ⟨by omega, fun h => h⟩⟩⟩
theorem wayUp {w mark due steps spot : Int} (H : Way w mark due steps spot) (m0 : 0 ≤ mark) (m1 : mark < w + w) (s0 : 0 ≤ steps) (p0 : 0 ≤ spot) (p1 : spot < w + w) (ne : ¬ spot = mark) (hn : ¬ spot + 1 = w + w) :
    (0 : Int) ≤ mark ∧ mark < w + w ∧ (0 : Int) ≤ steps + 1 ∧ 0 ≤ spot + 1 ∧ spot + 1 < w + w ∧ Way w mark due (steps + 1) (spot + 1) := by
  have e := H.is
  exact ⟨m0, m1, by omega, by omega, by omega, ⟨by omega⟩⟩
theorem wayOver {w mark due steps spot : Int} (H : Way w mark due steps spot) (m0 : 0 ≤ mark) (m1 : mark < w + w) (s0 : 0 ≤ steps) (p0 : 0 ≤ spot) (p1 : spot < w + w) (ne : ¬ spot = mark) (hn : spot + 1 = w + w) :
    (0 : Int) ≤ mark ∧ mark < w + w ∧ (0 : Int) ≤ steps + 1 ∧ (0 : Int) ≤ 0 ∧ (0 : Int) < w + w ∧ Way w mark due (steps + 1) 0 := by
  have e := H.is
  exact ⟨m0, m1, by omega, by omega, by omega, ⟨by omega⟩⟩
def left (w mark spot : Int) : Nat := if spot ≤ mark then (mark - spot).toNat else (mark - spot + (w + w)).toNat
theorem lessUp {w mark spot : Int} (m0 : 0 ≤ mark) (m1 : mark < w + w) (p0 : 0 ≤ spot) (p1 : spot < w + w) (ne : ¬ spot = mark) (hn : ¬ spot + 1 = w + w) : left w mark (spot + 1) < left w mark spot := by
  unfold left
  split <;> split <;> omega
theorem lessOver {w mark spot : Int} (m0 : 0 ≤ mark) (m1 : mark < w + w) (p0 : 0 ≤ spot) (p1 : spot < w + w) (ne : ¬ spot = mark) (hn : spot + 1 = w + w) : left w mark 0 < left w mark spot := by
  unfold left
  split <;> split <;> omega
/-- two rests of one round are one -/
theorem near {m d : Int} (hm : 0 < m) (lo : -m < m * d) (hi : m * d < m) : d = 0 := by
  rcases (by omega : d = 0 ∨ 1 ≤ d ∨ d ≤ -1) with e | e | e
  · exact e
  · have := Int.mul_le_mul_of_nonneg_left e (Int.le_of_lt hm)
    omega
  · have := Int.mul_le_mul_of_nonneg_left e (Int.le_of_lt hm)
    omega
theorem one {m a b r t : Int} (hm : 0 < m) (e : m * a + r = m * b + t) (r0 : 0 ≤ r) (r1 : r < m) (t0 : 0 ≤ t) (t1 : t < m) : r = t := by
  have f : m * (a - b) = m * a - m * b := Int.mul_sub m a b
  have z := near (d := a - b) hm (by omega) (by omega)
  rw [z] at f
  omega
theorem foundDue {w n k r due : Int} {pre : List Int} (e : n = 2 * w * k + r) (H : Cnt w pre due) (hl : (pre.length : Int) = n) (r0 : 0 ≤ r) (r1 : r < 2 * w) (d0 : 0 ≤ due) (d1 : due < w + w) : r = due := by
  obtain ⟨q, f⟩ := H.is
  have ww : w + w = 2 * w := by omega
  rw [ww] at f
  exact one (m := 2 * w) (a := k) (b := q) (by omega) (by omega) r0 r1 d0 (by omega)
theorem walkedSteps {w n k r due mark steps spot : Int} {pre : List Int} (e : mark - n = 2 * w * k + r) (W : Way w mark due steps spot) (H : Cnt w pre due) (hl : (pre.length : Int) = n) (hs : spot = mark)
    (s0 : 0 ≤ steps) (m0 : 0 ≤ mark) (m1 : mark < w + w) (r0 : 0 ≤ r) (r1 : r < 2 * w) (d0 : 0 ≤ due) (d1 : due < w + w) : r = steps := by
  obtain ⟨q, f⟩ := H.is
  have ww : w + w = 2 * w := by omega
  rw [ww] at f
  rcases W.is with ⟨a, b⟩ | ⟨a, b, c⟩
  · have g : 2 * w * (0 - q) = 2 * w * 0 - 2 * w * q := Int.mul_sub ..
    exact one (m := 2 * w) (a := k) (b := 0 - q) (by omega) (by omega) r0 r1 s0 (by omega)
  · have g : 2 * w * (0 - q - 1) = 2 * w * 0 - 2 * w * q - 2 * w := by rw [Int.mul_sub, Int.mul_sub, Int.mul_one]
    exact one (m := 2 * w) (a := k) (b := 0 - q - 1) (by omega) (by omega) r0 r1 s0 (by omega)
theorem restMark {m g f k k' r : Int} (e : g - f = m * k' + r) (h : g = m * k + f) (hm : 0 < m) (r0 : 0 ≤ r) (r1 : r < m) : r = 0 := by
  exact one (m := m) (a := k') (b := k) (t := 0) hm (by omega) r0 r1 (by omega) hm
theorem restSteps {m g s p k k' r : Int} (e : g + s - p = m * k' + r) (h : p - g = m * k + s) (hm : 0 < m) (r0 : 0 ≤ r) (r1 : r < m) : r = 0 := by
  have z : m * (0 - k) = m * 0 - m * k := Int.mul_sub ..
  exact one (m := m) (a := k') (b := 0 - k) (t := 0) hm (by omega) r0 r1 (by omega) hm
section
variable {prog : Program} {w : World} {A : Around} {E : Value → Shared → Prop} {s : Shared} {x y : Int} {t u : Tok} {Q : Value → Shared → Prop}
theorem quot (x y : Int) : x = y * Int.fdiv x y + Int.fmod x y := by
  rw [Int.fmod_def]
  omega
theorem step_mod (hy : 0 < y) (h : ∀ k r, x = y * k + r → 0 ≤ r → r < y → Q (.int r s.toks) { s with toks := s.toks + 1 }) :
    wpAny (model prog w) A (binaryOp .Mod (.int x t) (.int y u)) Q E s :=
  PyProof.Rows.mod_int (by omega) (h _ _ (quot x y) (Int.fmod_nonneg_of_pos x hy) (Int.fmod_lt_of_pos x hy))
theorem big_ok : IntMulOk (10 ^ 50) (10 ^ 50) := IntMulOk.of_bits (by decide +kernel) (by decide +kernel)
theorem big_pos : (1 : Int) < 10 ^ 50 * 10 ^ 50 := by decide +kernel
theorem step_big (hx : x = 10 ^ 50) (hy : y = 10 ^ 50) (h : ∀ m : Int, 1 < m → Q (.int m s.toks) { s with toks := s.toks + 1 }) :
    wpAny (model prog w) A (binaryOp .Mult (.int x t) (.int y u)) Q E s := by
  subst hx hy
  exact PyProof.Rows.mul_int (h _ big_pos) big_ok
theorem step_ne (e : x = y) (h : Q (.bool false) s) : wpAny (model prog w) A (compareOp .NotEq (.int x t) (.int y u)) Q E s := by
  refine PyProof.Rows.ne_int ?_
  have d : (x != y) = false := by simp [e]
  rw [d]
  exact h
end
end Fh
open PySem PySem.W PyProof.Rows
local macro_rules | `(tactic| walk_at "binaryOp Mod int int") => `(tactic| (k_here; (with_reducible refine' Fh.step_mod ?k1 ?_); (case k1 => k_dflt (first | omega | decide)); intro k' r' e' hr0 hr1))
local macro_rules | `(tactic| walk_at "binaryOp Mult int int") => `(tactic| (k_here; (with_reducible refine' Fh.step_big ?k1 ?k2 ?_); (case k1 => k_dflt (first | rfl | decide +kernel)); (case k2 => k_dflt (first | rfl | decide +kernel)); intro m' hm'))
local macro_rules | `(tactic| walk_at "compareOp NotEq int int") => `(tactic| (k_here; (with_reducible refine' Fh.step_ne ?k1 ?_); (case k1 => k_dflt (first | exact Fh.foundDue (by assumption) (by assumption) (by rw [rangeKs_length]; omega) (by omega) (by omega) (by omega) (by omega) | exact Fh.walkedSteps (by assumption) (by assumption) (by assumption) (by rw [rangeKs_length]; omega) (by omega) (by omega) (by omega) (by omega) (by omega) (by omega) (by omega) (by omega) | exact Fh.restMark (by assumption) (by assumption) (by omega) (by omega) (by omega) | exact Fh.restSteps (by assumption) (by assumption) (by omega) (by omega) (by omega)))))
example : Int → List Int → Int → Prop := fun w pre due => 1 ≤ w ∧ 0 ≤ due ∧ due < w + w ∧ Fh.Cnt w pre due
example : Int → Int → Int → List Int → Int → Int → Prop := fun w mark due _ steps spot => 0 ≤ mark ∧ mark < w + w ∧ 0 ≤ steps ∧ 0 ≤ spot ∧ spot < w + w ∧ Fh.Way w mark due steps spot
set_option maxRecDepth 100000 in
set_option maxHeartbeats 8000000 in
theorem PySem.Challenge.cw_flaghill_k01_marks_holds : PySem.Challenge.rw_flaghill_k01_marks.Holds := by
  k_with "state" => k_dflt (first
    | exact Fh.cnt0 (by omega)
    | exact Fh.cntUp (by assumption) (by omega) (by omega) (by omega) (by omega)
    | exact Fh.cntOver (by assumption) (by omega) (by omega) (by omega) (by omega)
    | exact Fh.way0 (by omega) (by omega) (by omega) (by omega)
    | exact Fh.wayUp (by assumption) (by omega) (by omega) (by omega) (by omega) (by omega) (by omega) (by omega)
    | exact Fh.wayOver (by assumption) (by omega) (by omega) (by omega) (by omega) (by omega) (by omega) (by omega))
  k_with "measure" => k_dflt (first
    | exact Fh.lessUp (by omega) (by omega) (by omega) (by omega) (by omega) (by omega)
    | exact Fh.lessOver (by omega) (by omega) (by omega) (by omega) (by omega) (by omega))
  k_with "exec While Compare cons nil" => k_while_given ["_law_width", "_law_mark", "_law_due"] (fun w mark due _ steps spot => 0 ≤ mark ∧ mark < w + w ∧ 0 ≤ steps ∧ 0 ≤ spot ∧ spot < w + w ∧ Fh.Way w mark due steps spot) (fun w mark _ _ _ spot => Fh.left w mark spot) "_law_steps" "_law_spot"
  k_with "pyIter ref" => (k_of "_law_k" => k_state_given ["_law_width"] (fun w pre due => 1 ≤ w ∧ 0 ≤ due ∧ due < w + w ∧ Fh.Cnt w pre due) "_law_due")
  open_k
#print axioms PySem.Challenge.cw_flaghill_k01_marks_holds
