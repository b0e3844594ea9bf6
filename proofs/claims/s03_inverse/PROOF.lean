import PyProof.Rows.All
import KE.OsGo
import KE.OsEnd
import KE.OsArgs
import PySem.Challenge.RW_made64_s03_inverse
set_option Elab.async false
set_option linter.unusedVariables false
namespace Pw
/-- a to the power e by m, over whole numbers -/
def P (a e m : Int) : Int := ((a.toNat ^ e.toNat % m.toNat : Nat) : Int)
structure Inv (a e m p f l : Int) : Prop where
  is : p.toNat * f.toNat ^ l.toNat % m.toNat = a.toNat ^ e.toNat % m.toNat
theorem fm {d r : Int} (d0 : 0 ≤ d) (r0 : 0 < r) : (Int.fmod d r).toNat = d.toNat % r.toNat := by
  rw [Int.fmod_eq_emod_of_nonneg d (Int.le_of_lt r0)]
  have e1 : d = (d.toNat : Int) := by omega
  have e2 : r = (r.toNat : Int) := by omega
  rw [e1, e2]
  rfl
theorem fd2 {l : Int} (l0 : 0 ≤ l) : (Int.fdiv l 2).toNat = l.toNat / 2 := by
  rw [Int.fdiv_eq_ediv_of_nonneg l (by decide)]
  omega
theorem fm2 {l : Int} : Int.fmod l 2 = l % 2 := Int.fmod_eq_emod_of_nonneg l (by decide)
theorem pow_mod (a m k : Nat) : (a % m) ^ k % m = a ^ k % m := (Nat.pow_mod a k m).symm
theorem mul_mod_l (a b m : Nat) : a % m * b % m = a * b % m := Nat.mod_mul_mod a b m
theorem mul_mod_r (a b m : Nat) : a * (b % m) % m = a * b % m := Nat.mul_mod_mod a b m
theorem toNat_mul {a b : Int} (ha : 0 ≤ a) (hb : 0 ≤ b) : (a * b).toNat = a.toNat * b.toNat := Int.toNat_mul ha hb
theorem start {a e m : Int} (ha : 0 ≤ a) (he : 0 ≤ e) (hm : 0 < m) :
    0 ≤ Int.fmod 1 m ∧ Int.fmod 1 m < m ∧ 0 ≤ Int.fmod a m ∧ Int.fmod a m < m ∧ 0 ≤ e ∧ Inv a e m (Int.fmod 1 m) (Int.fmod a m) e := by
  refine ⟨Int.fmod_nonneg_of_pos 1 hm, Int.fmod_lt_of_pos 1 hm, Int.fmod_nonneg_of_pos a hm, Int.fmod_lt_of_pos a hm, he, ⟨?_⟩⟩
  rw [fm (by decide) hm, fm ha hm, mul_mod_l, ← mul_mod_r, pow_mod, mul_mod_r]
  simp
theorem sq (f l : Nat) : (f * f) ^ (l / 2) * f ^ (l % 2) = f ^ l := by
  rw [← Nat.pow_two, ← Nat.pow_mul, ← Nat.pow_add, Nat.div_add_mod]
theorem even {a e m p f l : Int} (h : Inv a e m p f l) (hm : 0 < m) (p0 : 0 ≤ p) (p1 : p < m) (f0 : 0 ≤ f) (l0 : 0 < l) (hl : ¬ Int.fmod l 2 = 1) :
    0 ≤ p ∧ p < m ∧ 0 ≤ Int.fmod (f * f) m ∧ Int.fmod (f * f) m < m ∧ 0 ≤ Int.fdiv l 2 ∧ Inv a e m p (Int.fmod (f * f) m) (Int.fdiv l 2) := by
  have q := fd2 (Int.le_of_lt l0)
  rw [fm2] at hl
  refine ⟨p0, p1, Int.fmod_nonneg_of_pos _ hm, Int.fmod_lt_of_pos _ hm, ?_, ⟨?_⟩⟩
  · rw [Int.fdiv_eq_ediv_of_nonneg l (by decide)]; omega
  · rw [fm (Int.mul_nonneg f0 f0) hm, toNat_mul f0 f0, q, ← mul_mod_r, pow_mod, mul_mod_r, ← h.is, ← sq f.toNat l.toNat]
    rw [show l.toNat % 2 = 0 by omega]
    simp
theorem odd {a e m p f l : Int} (h : Inv a e m p f l) (hm : 0 < m) (p0 : 0 ≤ p) (f0 : 0 ≤ f) (l0 : 0 < l) (hl : Int.fmod l 2 = 1) :
    0 ≤ Int.fmod (p * f) m ∧ Int.fmod (p * f) m < m ∧ 0 ≤ Int.fmod (f * f) m ∧ Int.fmod (f * f) m < m ∧ 0 ≤ Int.fdiv l 2 ∧ Inv a e m (Int.fmod (p * f) m) (Int.fmod (f * f) m) (Int.fdiv l 2) := by
  have q := fd2 (Int.le_of_lt l0)
  rw [fm2] at hl
  refine ⟨Int.fmod_nonneg_of_pos _ hm, Int.fmod_lt_of_pos _ hm, Int.fmod_nonneg_of_pos _ hm, Int.fmod_lt_of_pos _ hm, ?_, ⟨?_⟩⟩
  · rw [Int.fdiv_eq_ediv_of_nonneg l (by decide)]; omega
  · rw [fm (Int.mul_nonneg f0 f0) hm, toNat_mul f0 f0, fm (Int.mul_nonneg p0 f0) hm, toNat_mul p0 f0, q, mul_mod_l, ← mul_mod_r, pow_mod, mul_mod_r, ← h.is, ← sq f.toNat l.toNat]
    rw [show l.toNat % 2 = 1 by omega, Nat.pow_one, Nat.mul_comm ((f.toNat * f.toNat) ^ (l.toNat / 2)), Nat.mul_assoc]
theorem less {l : Int} (l0 : 0 < l) : (Int.fdiv l 2).toNat < l.toNat := by
  rw [fd2 (Int.le_of_lt l0)]
  omega
theorem out {a e m p f l : Int} (h : Inv a e m p f l) (p0 : 0 ≤ p) (p1 : p < m) (l0 : ¬ 0 < l) : p = P a e m := by
  have e1 := h.is
  rw [show l.toNat = 0 by omega, Nat.pow_zero, Nat.mul_one, Nat.mod_eq_of_lt (by omega)] at e1
  unfold P
  rw [← e1]
  omega
/-! the specification's own powers -/
theorem powerOn_eq : ∀ (f a e m : Nat), e < 2 ^ f → Rb12.powerOn f a e m = a ^ e % m
  | 0, a, e, m, h => by
    rw [show e = 0 by omega]
    rfl
  | f + 1, a, e, m, h => by
    unfold Rb12.powerOn
    by_cases e0 : e = 0
    · rw [if_pos e0, e0]; rfl
    · rw [if_neg e0, powerOn_eq f (a * a % m) (e / 2) m (by rw [Nat.pow_succ] at h; omega), pow_mod]
      dsimp only
      by_cases o : e % 2 = 1
      · rw [if_pos o, mul_mod_r, ← sq a e, o, Nat.pow_one, Nat.mul_comm]
      · rw [if_neg o, ← sq a e, show e % 2 = 0 by omega]
        simp
theorem power_eq {a e m : Nat} (he : e < 2 ^ 65) : Rb12.power a e m = a ^ e % m := by
  unfold Rb12.power
  rw [powerOn_eq 65 _ _ _ he, pow_mod]
def W (m : Int) : Int := if m = 0 then 18446744073709551616 else m
theorem W_nat {m : Int} (m0 : 0 ≤ m) : (W m).toNat = Rb12.by_ m.toNat := by
  unfold W Rb12.by_
  by_cases h : m = 0
  · rw [if_pos h, if_pos (by omega)]; rfl
  · rw [if_neg h, if_neg (by omega)]
theorem W_pos {m : Int} (m0 : 0 ≤ m) (m1 : m ≤ 18446744073709551615) : 0 < W m ∧ W m ≤ 18446744073709551616 := by
  unfold W
  split <;> omega
theorem spec {a e m : Int} (e1 : e ≤ 18446744073709551615) (m0 : 0 ≤ m) : PyRb12.power a e m = [P a e (W m)] := by
  show [Rb12.nat (Rb12.power a.toNat e.toNat (Rb12.by_ m.toNat))] = _
  rw [power_eq (by have : (2 : Nat) ^ 65 = 36893488147419103232 := by decide
                   omega), ← W_nat m0]
  rfl
end Pw
namespace Iv
/-- before, rest, factor_before, factor -/
structure Inv (a m b r g f : Int) : Prop where
  gcd : Nat.gcd b.toNat r.toNat = Nat.gcd a.toNat m.toNat
  hb : m ∣ a * g - b
  hr : m ∣ a * f - r
  f1 : f < m ∨ m = 1
theorem fmod_eq (x y : Int) : Int.fmod x y = x - y * Int.fdiv x y := by
  have := Int.fmod_def x y
  omega
theorem start {a m : Int} (ha : 0 ≤ a) (hm : 0 < m) : 0 < m ∧ m ≤ m ∧ 0 ≤ Int.fmod a m ∧ Int.fmod a m < m ∧ (0 : Int) ≤ 0 ∧ 0 < m ∧ (0 : Int) ≤ 1 ∧ (1 : Int) < 18446744073709551616 ∧ Inv a m m (Int.fmod a m) 0 1 := by
  refine ⟨hm, by omega, Int.fmod_nonneg_of_pos a hm, Int.fmod_lt_of_pos a hm, by omega, hm, by omega, by omega, ⟨?_, ?_, ?_, ?_⟩⟩
  · rw [Pw.fm ha hm, Nat.gcd_comm, ← Nat.gcd_rec, Nat.gcd_comm]
  · exact ⟨-1, by omega⟩
  · refine ⟨Int.fdiv a m, ?_⟩
    rw [fmod_eq]
    omega
  · omega
theorem turn {a m b r g f : Int} (h : Inv a m b r g f) (hm : 0 < m) (hm2 : m ≤ 18446744073709551616) (b0 : 0 < b) (r0 : 0 < r) (r1 : r < m) (f0 : 0 ≤ f) :
    0 < r ∧ r ≤ m ∧ 0 ≤ b - Int.fdiv b r * r ∧ b - Int.fdiv b r * r < m ∧ 0 ≤ f ∧ f < m ∧ 0 ≤ Int.fmod (g - Int.fdiv b r * f) m ∧ Int.fmod (g - Int.fdiv b r * f) m < 18446744073709551616 ∧
      Inv a m r (b - Int.fdiv b r * r) f (Int.fmod (g - Int.fdiv b r * f) m) := by
  have e : b - Int.fdiv b r * r = Int.fmod b r := by rw [fmod_eq, Int.mul_comm]
  have x0 := Int.fmod_nonneg_of_pos b r0
  have x1 := Int.fmod_lt_of_pos b r0
  have y1 := Int.fmod_lt_of_pos (g - Int.fdiv b r * f) hm
  refine ⟨r0, by omega, by omega, by omega, f0, ?_, Int.fmod_nonneg_of_pos _ hm, by omega, ⟨?_, h.hr, ?_, Or.inl (Int.fmod_lt_of_pos _ hm)⟩⟩
  · rcases h.f1 with q | q <;> omega
  · rw [e, Pw.fm (by omega) r0, ← h.gcd, Nat.gcd_comm b.toNat, Nat.gcd_rec r.toNat b.toNat, Nat.gcd_comm]
  · obtain ⟨u, hu⟩ := h.hb
    obtain ⟨v, hv⟩ := h.hr
    generalize Int.fdiv b r = t
    rw [fmod_eq]
    generalize Int.fdiv (g - t * f) m = k
    refine ⟨u - t * v - a * k, ?_⟩
    grind
theorem less {b r : Int} (r0 : 0 < r) : (b - Int.fdiv b r * r).toNat < r.toNat := by
  have e : b - Int.fdiv b r * r = Int.fmod b r := by rw [fmod_eq, Int.mul_comm]
  have x1 := Int.fmod_lt_of_pos b r0
  omega
/-! the specification's own chain -/
theorem euclid_lin : ∀ (f : Nat) (a b : Int), (Rb12.euclid f a b).1 = a * (Rb12.euclid f a b).2.1 + b * (Rb12.euclid f a b).2.2
  | 0, a, b => by simp [Rb12.euclid]
  | f + 1, a, b => by
    unfold Rb12.euclid
    by_cases h : b = 0
    · simp [h]
    · rw [if_neg h]
      dsimp only
      have ih := euclid_lin f b (a % b)
      rw [ih]
      have d := Int.mul_ediv_add_emod a b
      generalize (Rb12.euclid f b (a % b)).2.1 = x
      generalize (Rb12.euclid f b (a % b)).2.2 = y
      generalize a / b = q at *
      generalize a % b = r at *
      subst d
      grind
theorem euclid_gcd : ∀ (f k : Nat) (a b : Nat), b < 2 ^ k → b ≤ a → 2 * k < f → (Rb12.euclid f a b).1 = (Nat.gcd a b : Nat)
  | 0, _, _, _, _, _, h => by omega
  | f + 1, 0, a, b, hb, _, hf => by
    rw [show b = 0 by omega]
    simp [Rb12.euclid]
  | 1, k + 1, _, _, _, _, hf => by omega
  | f + 2, k + 1, a, b, hb, hab, hf => by
    by_cases b0 : b = 0
    · rw [b0]; simp [Rb12.euclid]
    · have e1 : (Rb12.euclid (f + 2) a b).1 = (Rb12.euclid (f + 1) b ((a % b : Nat) : Int)).1 := by
        rw [Rb12.euclid, if_neg (by omega)]
        rfl
      by_cases r0 : a % b = 0
      · rw [e1, r0, Nat.gcd_comm, Nat.gcd_rec, r0]
        simp [Rb12.euclid]
      · have e2 : (Rb12.euclid (f + 1) b ((a % b : Nat) : Int)).1 = (Rb12.euclid f ((a % b : Nat) : Int) ((b % (a % b) : Nat) : Int)).1 := by
          rw [Rb12.euclid, if_neg (by omega)]
          rfl
        have l1 : a % b < b := Nat.mod_lt _ (by omega)
        have l2 : b % (a % b) < a % b := Nat.mod_lt _ (by omega)
        have l3 : b = (a % b) * (b / (a % b)) + b % (a % b) := (Nat.div_add_mod b (a % b)).symm
        have l4 : 1 ≤ b / (a % b) := Nat.div_pos (by omega) (by omega)
        have l5 : a % b ≤ (a % b) * (b / (a % b)) := Nat.le_mul_of_pos_right _ l4
        rw [e1, e2, euclid_gcd f k (a % b) (b % (a % b)) (by rw [Nat.pow_succ] at hb; omega) (by omega) (by omega)]
        rw [Nat.gcd_comm a b, Nat.gcd_rec b a, Nat.gcd_rec (a % b) b, Nat.gcd_comm]
theorem euclid_200 {a m : Nat} (hm : m ≤ 2 ^ 64) (ha : a < m) : (Rb12.euclid 200 a m).1 = (Nat.gcd a m : Nat) := by
  have e1 : (Rb12.euclid 200 a m).1 = (Rb12.euclid 199 m a).1 := by
    show (Rb12.euclid (199 + 1) a m).1 = _
    rw [Rb12.euclid, if_neg (by omega)]
    show (Rb12.euclid 199 m ((a % m : Nat) : Int)).1 = _
    rw [Nat.mod_eq_of_lt ha]
  have : (2 : Nat) ^ 65 = 2 * 2 ^ 64 := by decide
  rw [e1, euclid_gcd 199 65 m a (by omega) (by omega) (by omega), Nat.gcd_comm]
/-- an inverse is one alone -/
theorem only {a m x y : Int} (hx : m ∣ a * x - 1) (hy : m ∣ a * y - 1) (x0 : 0 ≤ x) (x1 : x < m) (y0 : 0 ≤ y) (y1 : y < m) : x = y := by
  obtain ⟨u, hu⟩ := hx
  obtain ⟨v, hv⟩ := hy
  have d : m ∣ x - y := ⟨y * u - x * v, by grind⟩
  have := Int.emod_emod_of_dvd x (Int.dvd_refl m)
  have e := Int.emod_eq_emod_iff_emod_sub_eq_zero.mpr (Int.emod_eq_zero_of_dvd d)
  rw [Int.emod_eq_of_lt x0 x1, Int.emod_eq_of_lt y0 y1] at e
  exact e
theorem spec_none {a m : Nat} (hm0 : 0 < m) (hm : m ≤ 2 ^ 64) (h : Nat.gcd a m ≠ 1) : Rb12.inverse a m = none := by
  have m1 : m ≠ 1 := by intro e; rw [e] at h; simp at h
  unfold Rb12.inverse
  rw [if_neg m1]
  dsimp only
  rw [euclid_200 hm (Nat.mod_lt _ hm0), if_neg]
  have : Nat.gcd (a % m) m = Nat.gcd a m := by rw [← Nat.gcd_rec, Nat.gcd_comm]
  rw [this]
  simpa using h
theorem spec_some {a m : Nat} (hm0 : 0 < m) (hm : m ≤ 2 ^ 64) (h : Nat.gcd a m = 1) : ∃ x : Nat, Rb12.inverse a m = some x ∧ x < m ∧ (m : Int) ∣ a * x - 1 := by
  unfold Rb12.inverse
  by_cases m1 : m = 1
  · rw [if_pos m1]
    exact ⟨0, rfl, by omega, by rw [m1]; exact Int.one_dvd _⟩
  · rw [if_neg m1]
    dsimp only
    have g : Nat.gcd (a % m) m = 1 := by rw [← Nat.gcd_rec, Nat.gcd_comm]; exact h
    have l := euclid_lin 200 ((a % m : Nat) : Int) m
    rw [euclid_200 hm (Nat.mod_lt _ hm0), g] at *
    rw [if_pos (show ((1 : Nat) : Int).natAbs = 1 from rfl)]
    generalize (Rb12.euclid 200 ((a % m : Nat) : Int) m).2.1 = x at *
    generalize (Rb12.euclid 200 ((a % m : Nat) : Int) m).2.2 = y at *
    have p := Int.emod_nonneg (x * ((1 : Nat) : Int)) (show (m : Int) ≠ 0 by omega)
    have p2 := Int.emod_lt_of_pos (x * ((1 : Nat) : Int)) (show (0 : Int) < m by omega)
    refine ⟨_, rfl, by omega, ?_⟩
    rw [Int.toNat_of_nonneg p]
    have d1 := Int.mul_ediv_add_emod (x * ((1 : Nat) : Int)) m
    have d2 := Int.mul_ediv_add_emod (a : Int) m
    have d3 : (((a % m : Nat)) : Int) = (a : Int) % (m : Int) := rfl
    rw [d3] at l
    generalize (x * ((1 : Nat) : Int)) % (m : Int) = z at *
    generalize (x * ((1 : Nat) : Int)) / (m : Int) = q at *
    generalize (a : Int) % (m : Int) = r at *
    generalize (a : Int) / (m : Int) = t at *
    refine ⟨-(y) + t * x - a * q, ?_⟩
    grind
theorem out_gcd {a m b r g f : Int} (h : Inv a m b r g f) (r0 : 0 ≤ r) (hr : ¬ 0 < r) : b.toNat = Nat.gcd a.toNat m.toNat := by
  rw [← h.gcd, show r.toNat = 0 by omega, Nat.gcd_zero_right]
theorem end_none {a m b r g f : Int} (h : Inv a (Pw.W m) b r g f) (m0 : 0 ≤ m) (m1 : m ≤ 18446744073709551615) (b0 : 0 < b) (r0 : 0 ≤ r) (hr : ¬ 0 < r) (hb : b ≠ 1) :
    PyRb12.inverse a m = [-1] := by
  have w := Pw.W_pos m0 m1
  have k := out_gcd h r0 hr
  show (match Rb12.inverse a.toNat (Rb12.by_ m.toNat) with | some x => [0, Rb12.nat x] | none => [-1]) = _
  rw [← Pw.W_nat m0, spec_none (by omega) (by omega) (by omega)]
theorem end_some {a m b r g f : Int} (h : Inv a (Pw.W m) b r g f) (a0 : 0 ≤ a) (m0 : 0 ≤ m) (m1 : m ≤ 18446744073709551615) (b0 : 0 < b) (r0 : 0 ≤ r) (hr : ¬ 0 < r) (g0 : 0 ≤ g) (g1 : g < Pw.W m) (hb : b = 1) :
    PyRb12.inverse a m = [0, g] := by
  have w := Pw.W_pos m0 m1
  have k := out_gcd h r0 hr
  show (match Rb12.inverse a.toNat (Rb12.by_ m.toNat) with | some x => [0, Rb12.nat x] | none => [-1]) = _
  obtain ⟨x, e, x1, xd⟩ := spec_some (a := a.toNat) (m := (Pw.W m).toNat) (by omega) (by omega) (by omega)
  rw [← Pw.W_nat m0, e]
  have hx : Pw.W m ∣ a * (x : Int) - 1 := by
    rw [Int.toNat_of_nonneg (by omega), Int.toNat_of_nonneg a0] at xd
    exact xd
  have hg : Pw.W m ∣ a * g - 1 := by rw [← hb]; exact h.hb
  have := only hg hx g0 g1 (by omega) (by omega)
  show [0, ((x : Nat) : Int)] = _
  rw [← this]
end Iv
namespace Stp
open PySem PySem.W PySem.Calls PyProof.Rows
section
variable {prog : Program} {w : World} {A : Around} {E : Value → Shared → Prop} {s : Shared} {x y : Int} {t u : Tok} {Q : Value → Shared → Prop}
theorem log_le {y : Int} (h0 : 0 < y) (h1 : y ≤ 18446744073709551616) : y.natAbs.log2 < 9000 := by
  have : y.natAbs.log2 < 65 := (Nat.log2_lt (by omega)).mpr (by omega)
  omega
theorem step_div (hy : 0 < y) (hs : y ≤ 18446744073709551616) (h : Q (.int (Int.fdiv x y) s.toks) { s with toks := s.toks + 1 }) :
    wpAny (model prog w) A (binaryOp .FloorDiv (.int x t) (.int y u)) Q E s :=
  PyProof.Rows.floordiv_int (by omega) h (Or.inl (PyProof.noPylong_of_log2 (log_le hy hs)))
theorem step_mod (hy : 0 < y) (h : Q (.int (Int.fmod x y) s.toks) { s with toks := s.toks + 1 }) :
    wpAny (model prog w) A (binaryOp .Mod (.int x t) (.int y u)) Q E s :=
  PyProof.Rows.mod_int (by omega) h
theorem step_mul (lo : 0 ≤ y) (hi : y < 18446744073709551616) (h : Q (.int (x * y) s.toks) { s with toks := s.toks + 1 }) :
    wpAny (model prog w) A (binaryOp .Mult (.int x t) (.int y u)) Q E s :=
  PyProof.Rows.mul_int h (PySem.IntMulOk.of_right (PySem.intBits_le_64 (by omega) (by omega)))
end
end Stp
open PySem PySem.W PyProof.Rows
local macro_rules | `(tactic| walk_at "binaryOp FloorDiv int int") => `(tactic| (k_here; (with_reducible refine' Stp.step_div ?k1 ?k2 ?_); (case k1 => k_dflt omega); (case k2 => k_dflt omega)))
local macro_rules | `(tactic| walk_at "binaryOp Mod int int") => `(tactic| (k_here; (with_reducible refine' Stp.step_mod ?k1 ?_); (case k1 => k_dflt omega)))
local macro_rules | `(tactic| walk_at "binaryOp Mult int int") => `(tactic| (k_here; (with_reducible refine' Stp.step_mul ?k1 ?k2 ?_); (case k1 => k_dflt omega); (case k2 => k_dflt omega)))
namespace Iv
open PySem PySem.W
theorem said : PySem.Challenge.rw_made64_s03_inverse.wellSaid = true := by decide +kernel
theorem bounds {a m : Int} (h : PySem.Challenge.rw_made64_s03_inverse.pre [WData.int a, WData.int m] = true) :
    0 ≤ a ∧ a ≤ 18446744073709551615 ∧ 0 ≤ m ∧ m ≤ 18446744073709551615 := by
  obtain ⟨v, w, q, e⟩ := os_pre said h
  obtain ⟨x, y, u⟩ := v
  have e1 := os_j_int (List.cons.inj e).1
  have e2 := os_j_int (List.cons.inj (List.cons.inj e).2).1
  subst e1 e2
  have w2 : (Codec.inInt 0 18446744073709551615 a && (Codec.inInt 0 18446744073709551615 m && true)) = true := w
  simp only [Codec.inInt, Bool.and_eq_true, decide_eq_true_eq] at w2
  exact ⟨w2.1.1, w2.1.2, w2.2.1.1, w2.2.1.2⟩
theorem W_fact (m : Int) : 0 ≤ m → m ≤ 18446744073709551615 → 0 < Pw.W m ∧ Pw.W m ≤ 18446744073709551616 := Pw.W_pos
theorem fin {a m : Int} {l : List Int} (h : PySem.Challenge.rw_made64_s03_inverse.pre [WData.int a, WData.int m] = true) (e : PyRb12.inverse a m = l) :
    PySem.Challenge.rw_made64_s03_inverse.post [WData.int a, WData.int m] (ofPy (PyData.list (l.map PyData.int))) = true := by
  obtain ⟨v, w, q, ee⟩ := os_pre said h
  obtain ⟨x, y, u⟩ := v
  have e1 := os_j_int (List.cons.inj ee).1
  have e2 := os_j_int (List.cons.inj (List.cons.inj ee).2).1
  subst e1 e2
  rw [ee]
  refine os_shut said w ?_
  show ofPy (PyData.list (l.map PyData.int)) = WData.list ((PyRb12.inverse a m).map WData.int)
  rw [os_list rfl, e]
theorem fin_none {a m b r g f : Int} (h : PySem.Challenge.rw_made64_s03_inverse.pre [WData.int a, WData.int m] = true) (i : Inv a (Pw.W m) b r g f) (b0 : 0 < b) (r0 : 0 ≤ r) (hr : ¬ 0 < r) (hb : ¬ b = 1) :
    PySem.Challenge.rw_made64_s03_inverse.post [WData.int a, WData.int m] (ofPy (PyData.list [PyData.int (-1)])) = true :=
  fin h (end_none i (bounds h).2.2.1 (bounds h).2.2.2 b0 r0 hr hb)
theorem fin_some {a m b r g f : Int} (h : PySem.Challenge.rw_made64_s03_inverse.pre [WData.int a, WData.int m] = true) (i : Inv a (Pw.W m) b r g f) (b0 : 0 < b) (r0 : 0 ≤ r) (hr : ¬ 0 < r) (g0 : 0 ≤ g) (g1 : g < Pw.W m) (hb : b = 1) :
    PySem.Challenge.rw_made64_s03_inverse.post [WData.int a, WData.int m] (ofPy (PyData.list [PyData.int 0, PyData.int g])) = true :=
  fin h (end_some i (bounds h).1 (bounds h).2.2.1 (bounds h).2.2.2 b0 r0 hr g0 g1 hb)
end Iv
example : Int → Int → List Int → Int → Int → Int → Int → Prop := fun a m _ b r g f => 0 < b ∧ b ≤ m ∧ 0 ≤ r ∧ r < m ∧ 0 ≤ g ∧ g < m ∧ 0 ≤ f ∧ f < 18446744073709551616 ∧ Iv.Inv a m b r g f
set_option maxRecDepth 100000 in
set_option maxHeartbeats 8000000 in
theorem PySem.Challenge.cw_made64_s03_inverse_holds : PySem.Challenge.rw_made64_s03_inverse.Holds := by
  k_with "call ref" => k_call_by "whole_divisor" Pw.W
  k_with "tree" => simp only [Pw.W]
  k_with "fact whole_divisor" => exact Iv.W_fact
  k_with "state" => first
    | exact Iv.start (by omega) (by omega)
    | exact Iv.turn (by assumption) (by omega) (by omega) (by omega) (by omega) (by omega) (by omega)
  k_with "measure" => exact Iv.less (by omega)
  k_with "exec While Compare cons nil" => k_while_given ["a", "divisor"] (fun a m _ b r g f => 0 < b ∧ b ≤ m ∧ 0 ≤ r ∧ r < m ∧ 0 ≤ g ∧ g < m ∧ 0 ≤ f ∧ f < 18446744073709551616 ∧ Iv.Inv a m b r g f) (fun _ _ _ _ r _ _ => r.toNat) "before" "rest" "factor_before" "factor"
  w_on
  k_headS
  (case hw => exact ⟨[.int 0, .int 0], by decide +kernel, by decide +kernel⟩)
  w_strict (k_goS0; (all_goals try k_fold); (have hb := Iv.bounds (by assumption)); k_steps; (all_goals (try (w_end; sp_is; wrow_close))); (all_goals (try k_data)); all_goals first | sp_left | w_report)
  all_goals first
    | exact Iv.fin_some (by assumption) (by assumption) (by assumption) (by assumption) (by assumption) (by assumption) (by assumption) (by assumption)
    | exact Iv.fin_none (by assumption) (by assumption) (by assumption) (by assumption) (by assumption) (by assumption)
#print axioms PySem.Challenge.cw_made64_s03_inverse_holds
