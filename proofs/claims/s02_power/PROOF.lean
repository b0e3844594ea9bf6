import PyProof.Rows.All
import KE.OsGo
import KE.OsEnd
import KE.OsArgs
import PySem.Challenge.RW_made64_s02_power
set_option Elab.async false
set_option linter.unusedVariables false
namespace Pw
/-- a to the power e by m, over whole numbers -/
def P (a e m : Int) : Int := ((a.toNat ^ e.toNat % m.toNat : Nat) : Int)
structure Inv (a e m p f l : Int) : Prop where
  is : p.toNat * f.toNat ^ l.toNat % m.toNat = a.toNat ^ e.toNat % m.toNat
theorem fm {d r : Int} (d0 : 0 ≤ d) (r0 : 0 < r) : (Int.fmod d r).toNat = d.toNat % r.toNat := by
  rw [Int.fmod_eq_emod_of_nonneg d (Int.le_of_lt r0)]
  have e1 : d = (d.toNat : Int) := by omega
  have e2 : r = (r.toNat : Int) := by omega
  rw [e1, e2]
  rfl
theorem fd2 {l : Int} (l0 : 0 ≤ l) : (Int.fdiv l 2).toNat = l.toNat / 2 := by
  rw [Int.fdiv_eq_ediv_of_nonneg l (by decide)]
  omega
theorem fm2 {l : Int} : Int.fmod l 2 = l % 2 := Int.fmod_eq_emod_of_nonneg l (by decide)
theorem pow_mod (a m k : Nat) : (a % m) ^ k % m = a ^ k % m := (Nat.pow_mod a k m).symm
theorem mul_mod_l (a b m : Nat) : a % m * b % m = a * b % m := Nat.mod_mul_mod a b m
theorem mul_mod_r (a b m : Nat) : a * (b % m) % m = a * b % m := Nat.mul_mod_mod a b m
theorem toNat_mul {a b : Int} (ha : 0 ≤ a) (hb : 0 ≤ b) : (a * b).toNat = a.toNat * b.toNat := Int.toNat_mul ha hb
theorem start {a e m : Int} (ha : 0 ≤ a) (he : 0 ≤ e) (hm : 0 < m) :
    0 ≤ Int.fmod 1 m ∧ Int.fmod 1 m < m ∧ 0 ≤ Int.fmod a m ∧ Int.fmod a m < m ∧ 0 ≤ e ∧ Inv a e m (Int.fmod 1 m) (Int.fmod a m) e := by
  refine ⟨Int.fmod_nonneg_of_pos 1 hm, Int.fmod_lt_of_pos 1 hm, Int.fmod_nonneg_of_pos a hm, Int.fmod_lt_of_pos a hm, he, ⟨?_⟩⟩
  rw [fm (by decide) hm, fm ha hm, mul_mod_l, ← mul_mod_r, pow_mod, mul_mod_r]
  simp
theorem sq (f l : Nat) : (f * f) ^ (l / 2) * f ^ (l % 2) = f ^ l := by
  rw [← Nat.pow_two, ← Nat.pow_mul, ← Nat.pow_add, Nat.div_add_mod]
theorem even {a e m p f l : Int} (h : Inv a e m p f l) (hm : 0 < m) (p0 : 0 ≤ p) (p1 : p < m) (f0 : 0 ≤ f) (l0 : 0 < l) (hl : ¬ Int.fmod l 2 = 1) :
    0 ≤ p ∧ p < m ∧ 0 ≤ Int.fmod (f * f) m ∧ Int.fmod (f * f) m < m ∧ 0 ≤ Int.fdiv l 2 ∧ Inv a e m p (Int.fmod (f * f) m) (Int.fdiv l 2) := by
  have q := fd2 (Int.le_of_lt l0)
  rw [fm2] at hl
  refine ⟨p0, p1, Int.fmod_nonneg_of_pos _ hm, Int.fmod_lt_of_pos _ hm, ?_, ⟨?_⟩⟩
  · rw [Int.fdiv_eq_ediv_of_nonneg l (by decide)]; omega
  · rw [fm (Int.mul_nonneg f0 f0) hm, toNat_mul f0 f0, q, ← mul_mod_r, pow_mod, mul_mod_r, ← h.is, ← sq f.toNat l.toNat]
    rw [show l.toNat % 2 = 0 by omega]
    simp
theorem odd {a e m p f l : Int} (h : Inv a e m p f l) (hm : 0 < m) (p0 : 0 ≤ p) (f0 : 0 ≤ f) (l0 : 0 < l) (hl : Int.fmod l 2 = 1) :
    0 ≤ Int.fmod (p * f) m ∧ Int.fmod (p * f) m < m ∧ 0 ≤ Int.fmod (f * f) m ∧ Int.fmod (f * f) m < m ∧ 0 ≤ Int.fdiv l 2 ∧ Inv a e m (Int.fmod (p * f) m) (Int.fmod (f * f) m) (Int.fdiv l 2) := by
  have q := fd2 (Int.le_of_lt l0)
  rw [fm2] at hl
  refine ⟨Int.fmod_nonneg_of_pos _ hm, Int.fmod_lt_of_pos _ hm, Int.fmod_nonneg_of_pos _ hm, Int.fmod_lt_of_pos _ hm, ?_, ⟨?_⟩⟩
  · rw [Int.fdiv_eq_ediv_of_nonneg l (by decide)]; omega
  · rw [fm (Int.mul_nonneg f0 f0) hm, toNat_mul f0 f0, fm (Int.mul_nonneg p0 f0) hm, toNat_mul p0 f0, q, mul_mod_l, ← mul_mod_r, pow_mod, mul_mod_r, ← h.is, ← sq f.toNat l.toNat]
    rw [show l.toNat % 2 = 1 by omega, Nat.pow_one, Nat.mul_comm ((f.toNat * f.toNat) ^ (l.toNat / 2)), Nat.mul_assoc]
theorem less {l : Int} (l0 : 0 < l) : (Int.fdiv l 2).toNat < l.toNat := by
  rw [fd2 (Int.le_of_lt l0)]
  omega
theorem out {a e m p f l : Int} (h : Inv a e m p f l) (p0 : 0 ≤ p) (p1 : p < m) (l0 : ¬ 0 < l) : p = P a e m := by
  have e1 := h.is
  rw [show l.toNat = 0 by omega, Nat.pow_zero, Nat.mul_one, Nat.mod_eq_of_lt (by omega)] at e1
  unfold P
  rw [← e1]
  omega
/-! the specification's own powers -/
theorem powerOn_eq : ∀ (f a e m : Nat), e < 2 ^ f → Rb12.powerOn f a e m = a ^ e % m
  | 0, a, e, m, h => by
    rw [show e = 0 by omega]
    rfl
  | f + 1, a, e, m, h => by
    unfold Rb12.powerOn
    by_cases e0 : e = 0
    · rw [if_pos e0, e0]; rfl
    · rw [if_neg e0, powerOn_eq f (a * a % m) (e / 2) m (by rw [Nat.pow_succ] at h; omega), pow_mod]
      dsimp only
      by_cases o : e % 2 = 1
      · rw [if_pos o, mul_mod_r, ← sq a e, o, Nat.pow_one, Nat.mul_comm]
      · rw [if_neg o, ← sq a e, show e % 2 = 0 by omega]
        simp
theorem power_eq {a e m : Nat} (he : e < 2 ^ 65) : Rb12.power a e m = a ^ e % m := by
  unfold Rb12.power
  rw [powerOn_eq 65 _ _ _ he, pow_mod]
def W (m : Int) : Int := if m = 0 then 18446744073709551616 else m
theorem W_nat {m : Int} (m0 : 0 ≤ m) : (W m).toNat = Rb12.by_ m.toNat := by
  unfold W Rb12.by_
  by_cases h : m = 0
  · rw [if_pos h, if_pos (by omega)]; rfl
  · rw [if_neg h, if_neg (by omega)]
theorem W_pos {m : Int} (m0 : 0 ≤ m) (m1 : m ≤ 18446744073709551615) : 0 < W m ∧ W m ≤ 18446744073709551616 := by
  unfold W
  split <;> omega
theorem spec {a e m : Int} (e1 : e ≤ 18446744073709551615) (m0 : 0 ≤ m) : PyRb12.power a e m = [P a e (W m)] := by
  show [Rb12.nat (Rb12.power a.toNat e.toNat (Rb12.by_ m.toNat))] = _
  rw [power_eq (by have : (2 : Nat) ^ 65 = 36893488147419103232 := by decide
                   omega), ← W_nat m0]
  rfl
end Pw
namespace Stp
open PySem PySem.W PySem.Calls PyProof.Rows
section
variable {prog : Program} {w : World} {A : Around} {E : Value → Shared → Prop} {s : Shared} {x y : Int} {t u : Tok} {Q : Value → Shared → Prop}
theorem log_le {y : Int} (h0 : 0 < y) (h1 : y ≤ 18446744073709551616) : y.natAbs.log2 < 9000 := by
  have : y.natAbs.log2 < 65 := (Nat.log2_lt (by omega)).mpr (by omega)
  omega
theorem step_div (hy : 0 < y) (hs : y ≤ 18446744073709551616) (h : Q (.int (Int.fdiv x y) s.toks) { s with toks := s.toks + 1 }) :
    wpAny (model prog w) A (binaryOp .FloorDiv (.int x t) (.int y u)) Q E s :=
  PyProof.Rows.floordiv_int (by omega) h (Or.inl (PyProof.noPylong_of_log2 (log_le hy hs)))
theorem step_mod (hy : 0 < y) (h : Q (.int (Int.fmod x y) s.toks) { s with toks := s.toks + 1 }) :
    wpAny (model prog w) A (binaryOp .Mod (.int x t) (.int y u)) Q E s :=
  PyProof.Rows.mod_int (by omega) h
theorem step_mul (lo : 0 ≤ y) (hi : y < 18446744073709551616) (h : Q (.int (x * y) s.toks) { s with toks := s.toks + 1 }) :
    wpAny (model prog w) A (binaryOp .Mult (.int x t) (.int y u)) Q E s :=
  PyProof.Rows.mul_int h (PySem.IntMulOk.of_right (PySem.intBits_le_64 (by omega) (by omega)))
end
end Stp
open PySem PySem.W PyProof.Rows
local macro_rules | `(tactic| walk_at "binaryOp FloorDiv int int") => `(tactic| (k_here; (with_reducible refine' Stp.step_div ?k1 ?k2 ?_); (case k1 => k_dflt omega); (case k2 => k_dflt omega)))
local macro_rules | `(tactic| walk_at "binaryOp Mod int int") => `(tactic| (k_here; (with_reducible refine' Stp.step_mod ?k1 ?_); (case k1 => k_dflt omega)))
local macro_rules | `(tactic| walk_at "binaryOp Mult int int") => `(tactic| (k_here; (with_reducible refine' Stp.step_mul ?k1 ?k2 ?_); (case k1 => k_dflt omega); (case k2 => k_dflt omega)))
namespace Pw
open PySem PySem.W
theorem said : PySem.Challenge.rw_made64_s02_power.wellSaid = true := by decide +kernel
theorem bounds {a e m : Int} (h : PySem.Challenge.rw_made64_s02_power.pre [WData.int a, WData.int e, WData.int m] = true) :
    0 ≤ a ∧ a ≤ 18446744073709551615 ∧ 0 ≤ e ∧ e ≤ 18446744073709551615 ∧ 0 ≤ m ∧ m ≤ 18446744073709551615 := by
  obtain ⟨v, w, q, ee⟩ := os_pre said h
  obtain ⟨x, y, z, u⟩ := v
  have e1 := os_j_int (List.cons.inj ee).1
  have e2 := os_j_int (List.cons.inj (List.cons.inj ee).2).1
  have e3 := os_j_int (List.cons.inj (List.cons.inj (List.cons.inj ee).2).2).1
  subst e1 e2 e3
  have w2 : (Codec.inInt 0 18446744073709551615 a && (Codec.inInt 0 18446744073709551615 e && (Codec.inInt 0 18446744073709551615 m && true))) = true := w
  simp only [Codec.inInt, Bool.and_eq_true, decide_eq_true_eq] at w2
  exact ⟨w2.1.1, w2.1.2, w2.2.1.1, w2.2.1.2, w2.2.2.1.1, w2.2.2.1.2⟩
theorem W_fact (m : Int) : 0 ≤ m → m ≤ 18446744073709551615 → 0 < W m ∧ W m ≤ 18446744073709551616 := W_pos
theorem fin {a e m p f l : Int} (h : PySem.Challenge.rw_made64_s02_power.pre [WData.int a, WData.int e, WData.int m] = true) (i : Inv a e (W m) p f l) (p0 : 0 ≤ p) (p1 : p < W m) (l0 : ¬ 0 < l) :
    PySem.Challenge.rw_made64_s02_power.post [WData.int a, WData.int e, WData.int m] (ofPy (PyData.list [PyData.int p])) = true := by
  have b := bounds h
  obtain ⟨v, w, q, ee⟩ := os_pre said h
  obtain ⟨x, y, z, u⟩ := v
  have e1 := os_j_int (List.cons.inj ee).1
  have e2 := os_j_int (List.cons.inj (List.cons.inj ee).2).1
  have e3 := os_j_int (List.cons.inj (List.cons.inj (List.cons.inj ee).2).2).1
  subst e1 e2 e3
  rw [ee]
  refine os_shut said w ?_
  show ofPy (PyData.list ([p].map PyData.int)) = WData.list ((PyRb12.power a e m).map WData.int)
  rw [os_list rfl, spec b.2.2.2.1 b.2.2.2.2.1, ← out i p0 p1 l0]
end Pw
example : Int → Int → Int → List Int → Int → Int → Int → Prop := fun a e m _ p f l => 0 ≤ p ∧ p < m ∧ 0 ≤ f ∧ f < m ∧ 0 ≤ l ∧ Pw.Inv a e m p f l
set_option maxRecDepth 100000 in
set_option maxHeartbeats 8000000 in
theorem PySem.Challenge.cw_made64_s02_power_holds : PySem.Challenge.rw_made64_s02_power.Holds := by
  k_with "call ref" => k_call_by "whole_divisor" Pw.W
  k_with "tree" => simp only [Pw.W]
  k_with "fact whole_divisor" => exact Pw.W_fact
  k_with "state" => first
    | exact Pw.start (by omega) (by omega) (by omega)
    | exact Pw.even (by assumption) (by omega) (by omega) (by omega) (by omega) (by omega) (by assumption)
    | exact Pw.odd (by assumption) (by omega) (by omega) (by omega) (by omega) (by assumption)
  k_with "measure" => exact Pw.less (by omega)
  k_with "exec While Compare cons nil" => k_while_given ["a", "e", "divisor"] (fun a e m _ p f l => 0 ≤ p ∧ p < m ∧ 0 ≤ f ∧ f < m ∧ 0 ≤ l ∧ Pw.Inv a e m p f l) (fun _ _ _ _ _ _ l => l.toNat) "product" "factor" "left"
  w_on
  k_headS
  (case hw => exact ⟨[.int 0, .int 0, .int 0], by decide +kernel, by decide +kernel⟩)
  w_strict (k_goS0; (all_goals try k_fold); (have hb := Pw.bounds (by assumption)); k_steps; (all_goals (try (w_end; sp_is; wrow_close))); (all_goals (try k_data)); all_goals first | sp_left | w_report)
  all_goals exact Pw.fin (by assumption) (by assumption) (by assumption) (by assumption) (by assumption)
#print axioms PySem.Challenge.cw_made64_s02_power_holds
