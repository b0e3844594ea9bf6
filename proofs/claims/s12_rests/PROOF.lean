import PyProof.Rows.All
import KE.OsGo
import KE.OsEnd
import KE.OsArgs
import PySem.Challenge.RW_made64_s12_rests
set_option Elab.async false
set_option linter.unusedVariables false
namespace Pw
/-- a to the power e by m, over whole numbers -/
def P (a e m : Int) : Int := ((a.toNat ^ e.toNat % m.toNat : Nat) : Int)
structure Inv (a e m p f l : Int) : Prop where
  is : p.toNat * f.toNat ^ l.toNat % m.toNat = a.toNat ^ e.toNat % m.toNat
theorem fm {d r : Int} (d0 : 0 ≤ d) (r0 : 0 < r) : (Int.fmod d r).toNat = d.toNat % r.toNat := by
  rw [Int.fmod_eq_emod_of_nonneg d (Int.le_of_lt r0)]
  have e1 : d = (d.toNat : Int) := by omega
  have e2 : r = (r.toNat : Int) := by omega
  rw [e1, e2]
  rfl
theorem fd2 {l : Int} (l0 : 0 ≤ l) : (Int.fdiv l 2).toNat = l.toNat / 2 := by
  rw [Int.fdiv_eq_ediv_of_nonneg l (by decide)]
  omega
theorem fm2 {l : Int} : Int.fmod l 2 = l % 2 := Int.fmod_eq_emod_of_nonneg l (by decide)
theorem pow_mod (a m k : Nat) : (a % m) ^ k % m = a ^ k % m := (Nat.pow_mod a k m).symm
theorem mul_mod_l (a b m : Nat) : a % m * b % m = a * b % m := Nat.mod_mul_mod a b m
theorem mul_mod_r (a b m : Nat) : a * (b % m) % m = a * b % m := Nat.mul_mod_mod a b m
theorem toNat_mul {a b : Int} (ha : 0 ≤ a) (hb : 0 ≤ b) : (a * b).toNat = a.toNat * b.toNat := Int.toNat_mul ha hb
theorem start {a e m : Int} (ha : 0 ≤ a) (he : 0 ≤ e) (hm : 0 < m) :
    0 ≤ Int.fmod 1 m ∧ Int.fmod 1 m < m ∧ 0 ≤ Int.fmod a m ∧ Int.fmod a m < m ∧ 0 ≤ e ∧ Inv a e m (Int.fmod 1 m) (Int.fmod a m) e := by
  refine ⟨Int.fmod_nonneg_of_pos 1 hm, Int.fmod_lt_of_pos 1 hm, Int.fmod_nonneg_of_pos a hm, Int.fmod_lt_of_pos a hm, he, ⟨?_⟩⟩
  rw [fm (by decide) hm, fm ha hm, mul_mod_l, ← mul_mod_r, pow_mod, mul_mod_r]
  simp
theorem sq (f l : Nat) : (f * f) ^ (l / 2) * f ^ (l % 2) = f ^ l := by
  rw [← Nat.pow_two, ← Nat.pow_mul, ← Nat.pow_add, Nat.div_add_mod]
theorem even {a e m p f l : Int} (h : Inv a e m p f l) (hm : 0 < m) (p0 : 0 ≤ p) (p1 : p < m) (f0 : 0 ≤ f) (l0 : 0 < l) (hl : ¬ Int.fmod l 2 = 1) :
    0 ≤ p ∧ p < m ∧ 0 ≤ Int.fmod (f * f) m ∧ Int.fmod (f * f) m < m ∧ 0 ≤ Int.fdiv l 2 ∧ Inv a e m p (Int.fmod (f * f) m) (Int.fdiv l 2) := by
  have q := fd2 (Int.le_of_lt l0)
  rw [fm2] at hl
  refine ⟨p0, p1, Int.fmod_nonneg_of_pos _ hm, Int.fmod_lt_of_pos _ hm, ?_, ⟨?_⟩⟩
  · rw [Int.fdiv_eq_ediv_of_nonneg l (by decide)]; omega
  · rw [fm (Int.mul_nonneg f0 f0) hm, toNat_mul f0 f0, q, ← mul_mod_r, pow_mod, mul_mod_r, ← h.is, ← sq f.toNat l.toNat]
    rw [show l.toNat % 2 = 0 by omega]
    simp
theorem odd {a e m p f l : Int} (h : Inv a e m p f l) (hm : 0 < m) (p0 : 0 ≤ p) (f0 : 0 ≤ f) (l0 : 0 < l) (hl : Int.fmod l 2 = 1) :
    0 ≤ Int.fmod (p * f) m ∧ Int.fmod (p * f) m < m ∧ 0 ≤ Int.fmod (f * f) m ∧ Int.fmod (f * f) m < m ∧ 0 ≤ Int.fdiv l 2 ∧ Inv a e m (Int.fmod (p * f) m) (Int.fmod (f * f) m) (Int.fdiv l 2) := by
  have q := fd2 (Int.le_of_lt l0)
  rw [fm2] at hl
  refine ⟨Int.fmod_nonneg_of_pos _ hm, Int.fmod_lt_of_pos _ hm, Int.fmod_nonneg_of_pos _ hm, Int.fmod_lt_of_pos _ hm, ?_, ⟨?_⟩⟩
  · rw [Int.fdiv_eq_ediv_of_nonneg l (by decide)]; omega
  · rw [fm (Int.mul_nonneg f0 f0) hm, toNat_mul f0 f0, fm (Int.mul_nonneg p0 f0) hm, toNat_mul p0 f0, q, mul_mod_l, ← mul_mod_r, pow_mod, mul_mod_r, ← h.is, ← sq f.toNat l.toNat]
    rw [show l.toNat % 2 = 1 by omega, Nat.pow_one, Nat.mul_comm ((f.toNat * f.toNat) ^ (l.toNat / 2)), Nat.mul_assoc]
theorem less {l : Int} (l0 : 0 < l) : (Int.fdiv l 2).toNat < l.toNat := by
  rw [fd2 (Int.le_of_lt l0)]
  omega
theorem out {a e m p f l : Int} (h : Inv a e m p f l) (p0 : 0 ≤ p) (p1 : p < m) (l0 : ¬ 0 < l) : p = P a e m := by
  have e1 := h.is
  rw [show l.toNat = 0 by omega, Nat.pow_zero, Nat.mul_one, Nat.mod_eq_of_lt (by omega)] at e1
  unfold P
  rw [← e1]
  omega
/-! the specification's own powers -/
theorem powerOn_eq : ∀ (f a e m : Nat), e < 2 ^ f → Rb12.powerOn f a e m = a ^ e % m
  | 0, a, e, m, h => by
    rw [show e = 0 by omega]
    rfl
  | f + 1, a, e, m, h => by
    unfold Rb12.powerOn
    by_cases e0 : e = 0
    · rw [if_pos e0, e0]; rfl
    · rw [if_neg e0, powerOn_eq f (a * a % m) (e / 2) m (by rw [Nat.pow_succ] at h; omega), pow_mod]
      dsimp only
      by_cases o : e % 2 = 1
      · rw [if_pos o, mul_mod_r, ← sq a e, o, Nat.pow_one, Nat.mul_comm]
      · rw [if_neg o, ← sq a e, show e % 2 = 0 by omega]
        simp
theorem power_eq {a e m : Nat} (he : e < 2 ^ 65) : Rb12.power a e m = a ^ e % m := by
  unfold Rb12.power
  rw [powerOn_eq 65 _ _ _ he, pow_mod]
def W (m : Int) : Int := if m = 0 then 18446744073709551616 else m
theorem W_nat {m : Int} (m0 : 0 ≤ m) : (W m).toNat = Rb12.by_ m.toNat := by
  unfold W Rb12.by_
  by_cases h : m = 0
  · rw [if_pos h, if_pos (by omega)]; rfl
  · rw [if_neg h, if_neg (by omega)]
theorem W_pos {m : Int} (m0 : 0 ≤ m) (m1 : m ≤ 18446744073709551615) : 0 < W m ∧ W m ≤ 18446744073709551616 := by
  unfold W
  split <;> omega
theorem spec {a e m : Int} (e1 : e ≤ 18446744073709551615) (m0 : 0 ≤ m) : PyRb12.power a e m = [P a e (W m)] := by
  show [Rb12.nat (Rb12.power a.toNat e.toNat (Rb12.by_ m.toNat))] = _
  rw [power_eq (by have : (2 : Nat) ^ 65 = 36893488147419103232 := by decide
                   omega), ← W_nat m0]
  rfl
end Pw
namespace Cm
def G (a b : Int) : Int := ((Nat.gcd a.toNat b.toNat : Nat) : Int)
structure Inv (a b d r : Int) : Prop where
  is : Nat.gcd d.toNat r.toNat = Nat.gcd a.toNat b.toNat
theorem fm {d r : Int} (d0 : 0 ≤ d) (r0 : 0 < r) : (Int.fmod d r).toNat = d.toNat % r.toNat := by
  rw [Int.fmod_eq_emod_of_nonneg d (Int.le_of_lt r0)]
  have e1 : d = (d.toNat : Int) := by omega
  have e2 : r = (r.toNat : Int) := by omega
  rw [e1, e2]
  rfl
theorem start {a b : Int} (ha : 0 ≤ a) (hb : 0 ≤ b) : 0 ≤ a ∧ 0 ≤ b ∧ Inv a b a b := ⟨ha, hb, ⟨rfl⟩⟩
theorem turn {a b d r : Int} (h : Inv a b d r) (d0 : 0 ≤ d) (r0 : 0 < r) : 0 ≤ r ∧ 0 ≤ Int.fmod d r ∧ Inv a b r (Int.fmod d r) := by
  refine ⟨by omega, Int.fmod_nonneg_of_pos d r0, ⟨?_⟩⟩
  rw [fm d0 r0, ← h.is, Nat.gcd_comm d.toNat, Nat.gcd_rec r.toNat d.toNat, Nat.gcd_comm]
theorem less {d r : Int} (r0 : 0 < r) : (Int.fmod d r).toNat < r.toNat := by
  have := Int.fmod_lt_of_pos d r0
  omega
theorem out {a b d r : Int} (h : Inv a b d r) (d0 : 0 ≤ d) (r0 : ¬ 0 < r) : d = G a b := by
  unfold G
  rw [← h.is, show r.toNat = 0 by omega, Nat.gcd_zero_right]
  omega
theorem spec (a b : Int) : PyRb12.common a b = [G a b] := rfl
end Cm
namespace Iv
/-- before, rest, factor_before, factor -/
structure Inv (a m b r g f : Int) : Prop where
  gcd : Nat.gcd b.toNat r.toNat = Nat.gcd a.toNat m.toNat
  hb : m ∣ a * g - b
  hr : m ∣ a * f - r
  f1 : f < m ∨ m = 1
theorem fmod_eq (x y : Int) : Int.fmod x y = x - y * Int.fdiv x y := by
  have := Int.fmod_def x y
  omega
theorem start {a m : Int} (ha : 0 ≤ a) (hm : 0 < m) : 0 < m ∧ m ≤ m ∧ 0 ≤ Int.fmod a m ∧ Int.fmod a m < m ∧ (0 : Int) ≤ 0 ∧ 0 < m ∧ (0 : Int) ≤ 1 ∧ (1 : Int) < 18446744073709551616 ∧ Inv a m m (Int.fmod a m) 0 1 := by
  refine ⟨hm, by omega, Int.fmod_nonneg_of_pos a hm, Int.fmod_lt_of_pos a hm, by omega, hm, by omega, by omega, ⟨?_, ?_, ?_, ?_⟩⟩
  · rw [Pw.fm ha hm, Nat.gcd_comm, ← Nat.gcd_rec, Nat.gcd_comm]
  · exact ⟨-1, by omega⟩
  · refine ⟨Int.fdiv a m, ?_⟩
    rw [fmod_eq]
    omega
  · omega
theorem turn {a m b r g f : Int} (h : Inv a m b r g f) (hm : 0 < m) (hm2 : m ≤ 18446744073709551616) (b0 : 0 < b) (r0 : 0 < r) (r1 : r < m) (f0 : 0 ≤ f) :
    0 < r ∧ r ≤ m ∧ 0 ≤ b - Int.fdiv b r * r ∧ b - Int.fdiv b r * r < m ∧ 0 ≤ f ∧ f < m ∧ 0 ≤ Int.fmod (g - Int.fdiv b r * f) m ∧ Int.fmod (g - Int.fdiv b r * f) m < 18446744073709551616 ∧
      Inv a m r (b - Int.fdiv b r * r) f (Int.fmod (g - Int.fdiv b r * f) m) := by
  have e : b - Int.fdiv b r * r = Int.fmod b r := by rw [fmod_eq, Int.mul_comm]
  have x0 := Int.fmod_nonneg_of_pos b r0
  have x1 := Int.fmod_lt_of_pos b r0
  have y1 := Int.fmod_lt_of_pos (g - Int.fdiv b r * f) hm
  refine ⟨r0, by omega, by omega, by omega, f0, ?_, Int.fmod_nonneg_of_pos _ hm, by omega, ⟨?_, h.hr, ?_, Or.inl (Int.fmod_lt_of_pos _ hm)⟩⟩
  · rcases h.f1 with q | q <;> omega
  · rw [e, Pw.fm (by omega) r0, ← h.gcd, Nat.gcd_comm b.toNat, Nat.gcd_rec r.toNat b.toNat, Nat.gcd_comm]
  · obtain ⟨u, hu⟩ := h.hb
    obtain ⟨v, hv⟩ := h.hr
    generalize Int.fdiv b r = t
    rw [fmod_eq]
    generalize Int.fdiv (g - t * f) m = k
    refine ⟨u - t * v - a * k, ?_⟩
    grind
theorem less {b r : Int} (r0 : 0 < r) : (b - Int.fdiv b r * r).toNat < r.toNat := by
  have e : b - Int.fdiv b r * r = Int.fmod b r := by rw [fmod_eq, Int.mul_comm]
  have x1 := Int.fmod_lt_of_pos b r0
  omega
/-! the specification's own chain -/
theorem euclid_lin : ∀ (f : Nat) (a b : Int), (Rb12.euclid f a b).1 = a * (Rb12.euclid f a b).2.1 + b * (Rb12.euclid f a b).2.2
  | 0, a, b => by simp [Rb12.euclid]
  | f + 1, a, b => by
    unfold Rb12.euclid
    by_cases h : b = 0
    · simp [h]
    · rw [if_neg h]
      dsimp only
      have ih := euclid_lin f b (a % b)
      rw [ih]
      have d := Int.mul_ediv_add_emod a b
      generalize (Rb12.euclid f b (a % b)).2.1 = x
      generalize (Rb12.euclid f b (a % b)).2.2 = y
      generalize a / b = q at *
      generalize a % b = r at *
      subst d
      grind
theorem euclid_gcd : ∀ (f k : Nat) (a b : Nat), b < 2 ^ k → b ≤ a → 2 * k < f → (Rb12.euclid f a b).1 = (Nat.gcd a b : Nat)
  | 0, _, _, _, _, _, h => by omega
  | f + 1, 0, a, b, hb, _, hf => by
    rw [show b = 0 by omega]
    simp [Rb12.euclid]
  | 1, k + 1, _, _, _, _, hf => by omega
  | f + 2, k + 1, a, b, hb, hab, hf => by
    by_cases b0 : b = 0
    · rw [b0]; simp [Rb12.euclid]
    · have e1 : (Rb12.euclid (f + 2) a b).1 = (Rb12.euclid (f + 1) b ((a % b : Nat) : Int)).1 := by
        rw [Rb12.euclid, if_neg (by omega)]
        rfl
      by_cases r0 : a % b = 0
      · rw [e1, r0, Nat.gcd_comm, Nat.gcd_rec, r0]
        simp [Rb12.euclid]
      · have e2 : (Rb12.euclid (f + 1) b ((a % b : Nat) : Int)).1 = (Rb12.euclid f ((a % b : Nat) : Int) ((b % (a % b) : Nat) : Int)).1 := by
          rw [Rb12.euclid, if_neg (by omega)]
          rfl
        have l1 : a % b < b := Nat.mod_lt _ (by omega)
        have l2 : b % (a % b) < a % b := Nat.mod_lt _ (by omega)
        have l3 : b = (a % b) * (b / (a % b)) + b % (a % b) := (Nat.div_add_mod b (a % b)).symm
        have l4 : 1 ≤ b / (a % b) := Nat.div_pos (by omega) (by omega)
        have l5 : a % b ≤ (a % b) * (b / (a % b)) := Nat.le_mul_of_pos_right _ l4
        rw [e1, e2, euclid_gcd f k (a % b) (b % (a % b)) (by rw [Nat.pow_succ] at hb; omega) (by omega) (by omega)]
        rw [Nat.gcd_comm a b, Nat.gcd_rec b a, Nat.gcd_rec (a % b) b, Nat.gcd_comm]
theorem euclid_200 {a m : Nat} (hm : m ≤ 2 ^ 64) (ha : a < m) : (Rb12.euclid 200 a m).1 = (Nat.gcd a m : Nat) := by
  have e1 : (Rb12.euclid 200 a m).1 = (Rb12.euclid 199 m a).1 := by
    show (Rb12.euclid (199 + 1) a m).1 = _
    rw [Rb12.euclid, if_neg (by omega)]
    show (Rb12.euclid 199 m ((a % m : Nat) : Int)).1 = _
    rw [Nat.mod_eq_of_lt ha]
  have : (2 : Nat) ^ 65 = 2 * 2 ^ 64 := by decide
  rw [e1, euclid_gcd 199 65 m a (by omega) (by omega) (by omega), Nat.gcd_comm]
/-- an inverse is one alone -/
theorem only {a m x y : Int} (hx : m ∣ a * x - 1) (hy : m ∣ a * y - 1) (x0 : 0 ≤ x) (x1 : x < m) (y0 : 0 ≤ y) (y1 : y < m) : x = y := by
  obtain ⟨u, hu⟩ := hx
  obtain ⟨v, hv⟩ := hy
  have d : m ∣ x - y := ⟨y * u - x * v, by grind⟩
  have := Int.emod_emod_of_dvd x (Int.dvd_refl m)
  have e := Int.emod_eq_emod_iff_emod_sub_eq_zero.mpr (Int.emod_eq_zero_of_dvd d)
  rw [Int.emod_eq_of_lt x0 x1, Int.emod_eq_of_lt y0 y1] at e
  exact e
theorem spec_none {a m : Nat} (hm0 : 0 < m) (hm : m ≤ 2 ^ 64) (h : Nat.gcd a m ≠ 1) : Rb12.inverse a m = none := by
  have m1 : m ≠ 1 := by intro e; rw [e] at h; simp at h
  unfold Rb12.inverse
  rw [if_neg m1]
  dsimp only
  rw [euclid_200 hm (Nat.mod_lt _ hm0), if_neg]
  have : Nat.gcd (a % m) m = Nat.gcd a m := by rw [← Nat.gcd_rec, Nat.gcd_comm]
  rw [this]
  simpa using h
theorem spec_some {a m : Nat} (hm0 : 0 < m) (hm : m ≤ 2 ^ 64) (h : Nat.gcd a m = 1) : ∃ x : Nat, Rb12.inverse a m = some x ∧ x < m ∧ (m : Int) ∣ a * x - 1 := by
  unfold Rb12.inverse
  by_cases m1 : m = 1
  · rw [if_pos m1]
    exact ⟨0, rfl, by omega, by rw [m1]; exact Int.one_dvd _⟩
  · rw [if_neg m1]
    dsimp only
    have g : Nat.gcd (a % m) m = 1 := by rw [← Nat.gcd_rec, Nat.gcd_comm]; exact h
    have l := euclid_lin 200 ((a % m : Nat) : Int) m
    rw [euclid_200 hm (Nat.mod_lt _ hm0), g] at *
    rw [if_pos (show ((1 : Nat) : Int).natAbs = 1 from rfl)]
    generalize (Rb12.euclid 200 ((a % m : Nat) : Int) m).2.1 = x at *
    generalize (Rb12.euclid 200 ((a % m : Nat) : Int) m).2.2 = y at *
    have p := Int.emod_nonneg (x * ((1 : Nat) : Int)) (show (m : Int) ≠ 0 by omega)
    have p2 := Int.emod_lt_of_pos (x * ((1 : Nat) : Int)) (show (0 : Int) < m by omega)
    refine ⟨_, rfl, by omega, ?_⟩
    rw [Int.toNat_of_nonneg p]
    have d1 := Int.mul_ediv_add_emod (x * ((1 : Nat) : Int)) m
    have d2 := Int.mul_ediv_add_emod (a : Int) m
    have d3 : (((a % m : Nat)) : Int) = (a : Int) % (m : Int) := rfl
    rw [d3] at l
    generalize (x * ((1 : Nat) : Int)) % (m : Int) = z at *
    generalize (x * ((1 : Nat) : Int)) / (m : Int) = q at *
    generalize (a : Int) % (m : Int) = r at *
    generalize (a : Int) / (m : Int) = t at *
    refine ⟨-(y) + t * x - a * q, ?_⟩
    grind
theorem out_gcd {a m b r g f : Int} (h : Inv a m b r g f) (r0 : 0 ≤ r) (hr : ¬ 0 < r) : b.toNat = Nat.gcd a.toNat m.toNat := by
  rw [← h.gcd, show r.toNat = 0 by omega, Nat.gcd_zero_right]
theorem end_none {a m b r g f : Int} (h : Inv a (Pw.W m) b r g f) (m0 : 0 ≤ m) (m1 : m ≤ 18446744073709551615) (b0 : 0 < b) (r0 : 0 ≤ r) (hr : ¬ 0 < r) (hb : b ≠ 1) :
    PyRb12.inverse a m = [-1] := by
  have w := Pw.W_pos m0 m1
  have k := out_gcd h r0 hr
  show (match Rb12.inverse a.toNat (Rb12.by_ m.toNat) with | some x => [0, Rb12.nat x] | none => [-1]) = _
  rw [← Pw.W_nat m0, spec_none (by omega) (by omega) (by omega)]
theorem end_some {a m b r g f : Int} (h : Inv a (Pw.W m) b r g f) (a0 : 0 ≤ a) (m0 : 0 ≤ m) (m1 : m ≤ 18446744073709551615) (b0 : 0 < b) (r0 : 0 ≤ r) (hr : ¬ 0 < r) (g0 : 0 ≤ g) (g1 : g < Pw.W m) (hb : b = 1) :
    PyRb12.inverse a m = [0, g] := by
  have w := Pw.W_pos m0 m1
  have k := out_gcd h r0 hr
  show (match Rb12.inverse a.toNat (Rb12.by_ m.toNat) with | some x => [0, Rb12.nat x] | none => [-1]) = _
  obtain ⟨x, e, x1, xd⟩ := spec_some (a := a.toNat) (m := (Pw.W m).toNat) (by omega) (by omega) (by omega)
  rw [← Pw.W_nat m0, e]
  have hx : Pw.W m ∣ a * (x : Int) - 1 := by
    rw [Int.toNat_of_nonneg (by omega), Int.toNat_of_nonneg a0] at xd
    exact xd
  have hg : Pw.W m ∣ a * g - 1 := by rw [← hb]; exact h.hb
  have := only hg hx g0 g1 (by omega) (by omega)
  show [0, ((x : Nat) : Int)] = _
  rw [← this]
end Iv
/-! Numbers by several rests: what the specification's fold is. -/
namespace Rs
open Rb12
/-- alike by m, over whole numbers -/
def Al (m : Nat) (x y : Int) : Prop := (m : Int) ∣ x - y
theorem al_mod {m z x : Nat} : z % m = x % m ↔ Al m z x := by
  unfold Al
  constructor
  · intro h
    have e1 := Nat.div_add_mod z m
    have e2 := Nat.div_add_mod x m
    refine ⟨((z / m : Nat) : Int) - ((x / m : Nat) : Int), ?_⟩
    rw [Int.mul_sub, ← Int.natCast_mul, ← Int.natCast_mul]
    omega
  · intro h
    have e := Int.emod_eq_emod_iff_emod_sub_eq_zero.mpr (Int.emod_eq_zero_of_dvd h)
    have e3 : ((z % m : Nat) : Int) = ((x % m : Nat) : Int) := by
      rw [Int.natCast_emod, Int.natCast_emod]
      exact e
    omega
theorem both_none {x m r k : Nat} (hm : 0 < m) (hk : 0 < k) (kl : k ≤ 2 ^ 64) (h : both (some (x, m)) r k = none) (z : Int) : ¬ (Al m z x ∧ Al k z r) := by
  rintro ⟨⟨u, hu⟩, ⟨v, hv⟩⟩
  have gm := Nat.gcd_dvd_left m k
  have gk := Nat.gcd_dvd_right m k
  have g0 : 0 < Nat.gcd m k := Nat.gcd_pos_of_pos_left k hm
  have co : Nat.gcd (m / Nat.gcd m k) (k / Nat.gcd m k) = 1 := Nat.gcd_div_gcd_div_gcd_of_pos_left hm
  unfold both at h
  simp only [Option.bind_some] at h
  generalize Nat.gcd m k = g at *
  obtain ⟨m', rfl⟩ := gm
  obtain ⟨k', rfl⟩ := gk
  have d : ((r : Int) - (x : Int)) % (g : Int) = 0 := by
    refine Int.emod_eq_zero_of_dvd ⟨m' * u - k' * v, ?_⟩
    rw [Int.natCast_mul] at hu hv
    grind
  rw [if_neg (by simpa using d)] at h
  rw [Nat.mul_div_cancel_left m' g0, Nat.mul_div_cancel_left k' g0] at h co
  have k0 : 0 < k' := by
    apply Nat.pos_of_ne_zero
    intro e
    rw [e] at hk
    omega
  have kl2 : k' ≤ 2 ^ 64 := Nat.le_trans (Nat.le_mul_of_pos_left k' g0) kl
  obtain ⟨i, hi, _, _⟩ := Iv.spec_some k0 kl2 co
  rw [hi] at h
  cases h
theorem both_some {x m r k : Nat} {y : Nat × Nat} (hm : 0 < m) (hk : 0 < k) (kl : k ≤ 2 ^ 64) (h : both (some (x, m)) r k = some y) :
    y.2 = Nat.lcm m k ∧ Al m y.1 x ∧ Al k y.1 r := by
  have gm := Nat.gcd_dvd_left m k
  have gk := Nat.gcd_dvd_right m k
  have g0 : 0 < Nat.gcd m k := Nat.gcd_pos_of_pos_left k hm
  have co : Nat.gcd (m / Nat.gcd m k) (k / Nat.gcd m k) = 1 := Nat.gcd_div_gcd_div_gcd_of_pos_left hm
  have lc : Nat.lcm m k = m / Nat.gcd m k * k := by
    unfold Nat.lcm
    rw [Nat.mul_comm m k, Nat.mul_div_assoc k gm, Nat.mul_comm]
  unfold both at h
  simp only [Option.bind_some] at h
  rw [lc]
  generalize Nat.gcd m k = g at *
  by_cases c : ((r : Int) - (x : Int)) % (g : Int) = 0
  · rw [if_neg (by simpa using c)] at h
    obtain ⟨m', rfl⟩ := gm
    obtain ⟨k', rfl⟩ := gk
    rw [Nat.mul_div_cancel_left m' g0, Nat.mul_div_cancel_left k' g0] at *
    have k0 : 0 < k' := by
      apply Nat.pos_of_ne_zero
      intro e
      rw [e] at hk
      omega
    have kl2 : k' ≤ 2 ^ 64 := Nat.le_trans (Nat.le_mul_of_pos_left k' g0) kl
    obtain ⟨i, hi, _, hd⟩ := Iv.spec_some k0 kl2 co
    rw [hi] at h
    simp only [Option.map_some, Option.some.injEq] at h
    subst h
    refine ⟨rfl, ?_, ?_⟩
    · refine ⟨(((((r : Int) - (x : Int)) / (g : Int) * (i : Int)) % ((k' : Nat) : Int)).toNat : Int), ?_⟩
      simp only [Int.natCast_add, Int.natCast_mul]
      omega
    · have dv := Int.mul_ediv_add_emod ((r : Int) - (x : Int)) (g : Int)
      rw [c] at dv
      generalize ((r : Int) - (x : Int)) / (g : Int) = q at *
      have t0 := Int.emod_nonneg (q * (i : Int)) (show ((k' : Nat) : Int) ≠ 0 by omega)
      have td := Int.mul_ediv_add_emod (q * (i : Int)) ((k' : Nat) : Int)
      obtain ⟨w, hw⟩ := hd
      simp only [Int.natCast_add, Int.natCast_mul, Int.toNat_of_nonneg t0]
      unfold Al
      generalize (q * (i : Int)) % ((k' : Nat) : Int) = t at *
      generalize (q * (i : Int)) / ((k' : Nat) : Int) = s at *
      rw [Int.natCast_mul]
      refine ⟨q * w - m' * s, ?_⟩
      grind
  · rw [if_pos (by simpa using c)] at h
    cases h
/-- what the fold's state says of the pairs taken so far -/
def Told (l : List (Nat × Nat)) : Option (Nat × Nat) → Prop
  | none => ∀ z : Int, ¬ ∀ p ∈ l, Al p.2 z p.1
  | some y => 0 < y.2 ∧ (∀ z : Int, Al y.2 z y.1 ↔ ∀ p ∈ l, Al p.2 z p.1) ∧ (∀ n : Nat, y.2 ∣ n ↔ ∀ p ∈ l, p.2 ∣ n)
theorem told_nil : Told [] (some (0, 1)) := by
  refine ⟨by decide, fun z => ⟨fun _ _ m => (nomatch m), fun _ => ?_⟩, fun n => ⟨fun _ _ m => (nomatch m), fun _ => Nat.one_dvd n⟩⟩
  exact ⟨z, by simp⟩
theorem al_lcm {m k : Nat} {a b : Int} : Al (Nat.lcm m k) a b ↔ Al m a b ∧ Al k a b := by
  unfold Al
  have e : ∀ n : Nat, (n : Int) ∣ a - b ↔ n ∣ (a - b).natAbs := fun n =>
    ⟨fun h => by have := Int.natAbs_dvd_natAbs.mpr h; simpa using this, fun h => Int.dvd_natAbs.mp (Int.natCast_dvd_natCast.mpr h)⟩
  rw [e, e, e]
  exact ⟨fun h => ⟨Nat.dvd_trans (Nat.dvd_lcm_left m k) h, Nat.dvd_trans (Nat.dvd_lcm_right m k) h⟩, fun h => Nat.lcm_dvd h.1 h.2⟩
theorem al_trans {m : Nat} {a b c : Int} (h : Al m a b) (g : Al m b c) : Al m a c := by
  obtain ⟨u, hu⟩ := h
  obtain ⟨v, hv⟩ := g
  exact ⟨u + v, by grind⟩
theorem al_symm {m : Nat} {a b : Int} (h : Al m a b) : Al m b a := by
  obtain ⟨u, hu⟩ := h
  exact ⟨-u, by grind⟩
theorem told_more {l : List (Nat × Nat)} {s : Option (Nat × Nat)} {r k : Nat} (h : Told l s) (hk : 0 < k) (kl : k ≤ 2 ^ 64) : Told (l ++ [(r, k)]) (both s r k) := by
  cases s with
  | none =>
    show ∀ z : Int, _
    intro z c
    exact h z fun p m => c p (List.mem_append_left _ m)
  | some y =>
    obtain ⟨x, m⟩ := y
    obtain ⟨m0, h1, h2⟩ := h
    cases e : both (some (x, m)) r k with
    | none =>
      intro z c
      refine both_none m0 hk kl e z ⟨(h1 z).mpr fun p q => c p (List.mem_append_left _ q), c (r, k) (by simp)⟩
    | some y =>
      obtain ⟨b1, b2, b3⟩ := both_some m0 hk kl e
      obtain ⟨x', m'⟩ := y
      dsimp only at b1 b2 b3
      subst b1
      refine ⟨Nat.lcm_pos m0 hk, fun z => ?_, fun n => ?_⟩
      · dsimp only
        rw [al_lcm]
        constructor
        · rintro ⟨c1, c2⟩ p q
          rcases List.mem_append.mp q with q | q
          · exact (h1 z).mp (al_trans c1 b2) p q
          · rw [List.mem_singleton.mp q]
            exact al_trans c2 b3
        · intro c
          refine ⟨al_trans ((h1 z).mpr fun p q => c p (List.mem_append_left _ q)) (al_symm b2), al_trans (c (r, k) (by simp)) (al_symm b3)⟩
      · dsimp only
        constructor
        · intro c p q
          rcases List.mem_append.mp q with q | q
          · exact (h2 n).mp (Nat.dvd_trans (Nat.dvd_lcm_left m k) c) p q
          · rw [List.mem_singleton.mp q]
            exact Nat.dvd_trans (Nat.dvd_lcm_right m k) c
        · intro c
          exact Nat.lcm_dvd ((h2 n).mpr fun p q => c p (List.mem_append_left _ q)) (c (r, k) (by simp))
theorem told_fold : ∀ (l pre : List (Nat × Nat)) (s : Option (Nat × Nat)), (∀ p ∈ l, p.2 < 2 ^ 64) → Told pre s →
    Told (pre ++ l.map fun p => (p.1, by_ p.2)) (l.foldl (fun x p => both x p.1 (by_ p.2)) s)
  | [], pre, s, _, h => by simpa using h
  | p :: l, pre, s, b, h => by
    rw [List.map_cons, List.foldl_cons]
    have bp := b p List.mem_cons_self
    have w : 0 < by_ p.2 ∧ by_ p.2 ≤ 2 ^ 64 := by
      unfold by_
      split
      · exact ⟨by decide, by decide⟩
      · exact ⟨by omega, by omega⟩
    have := told_fold l (pre ++ [(p.1, by_ p.2)]) _ (fun q m => b q (List.mem_cons_of_mem p m)) (told_more h w.1 w.2)
    rw [List.append_assoc] at this
    exact this
/-- two states that say the same of the same pairs answer the same -/
def ans : Option (Nat × Nat) → List Int
  | none => [-1]
  | some x => if BIG < x.2 then [-2] else [0, nat (x.1 % x.2), nat (x.2 % BIG)]
theorem ans_only {l : List (Nat × Nat)} {s t : Option (Nat × Nat)} (h : Told l s) (g : Told l t) : ans s = ans t := by
  cases s with
  | none =>
    cases t with
    | none => rfl
    | some y => exact absurd ((g.2.1 y.1).mp ⟨0, by simp⟩) (h y.1)
  | some x =>
    cases t with
    | none => exact absurd ((h.2.1 x.1).mp ⟨0, by simp⟩) (g x.1)
    | some y =>
      have e : x.2 = y.2 := by
        refine Nat.dvd_antisymm ?_ ?_
        · exact (h.2.2 _).mpr ((g.2.2 _).mp (Nat.dvd_refl _))
        · exact (g.2.2 _).mpr ((h.2.2 _).mp (Nat.dvd_refl _))
      have a : Al x.2 x.1 y.1 := by
        have := (g.2.1 x.1).mpr ((h.2.1 x.1).mp ⟨0, by simp⟩)
        rw [e]
        exact this
      have m := al_mod.mpr a
      unfold ans
      dsimp only
      rw [e] at m ⊢
      rw [m]
end Rs
/-! rests: what the program's loops keep, and what it answers. -/
namespace Rs
open Rb12
/-! common divisors of a least common multiple -/
theorem dvd_lcm_gcd {e a b : Nat} (e0 : 0 < e) (h : e ∣ Nat.lcm a b) : e ∣ Nat.lcm (Nat.gcd e a) (Nat.gcd e b) := by
  have ga : 0 < Nat.gcd e a := Nat.gcd_pos_of_pos_left a e0
  have c0 : 0 < Nat.gcd e (Nat.gcd a b) := Nat.gcd_pos_of_pos_left _ e0
  have cg : Nat.gcd (Nat.gcd e a) (Nat.gcd e b) = Nat.gcd e (Nat.gcd a b) := by
    apply Nat.dvd_antisymm
    · refine Nat.dvd_gcd ?_ (Nat.dvd_gcd ?_ ?_)
      · exact Nat.dvd_trans (Nat.gcd_dvd_left _ _) (Nat.gcd_dvd_left _ _)
      · exact Nat.dvd_trans (Nat.gcd_dvd_left _ _) (Nat.gcd_dvd_right _ _)
      · exact Nat.dvd_trans (Nat.gcd_dvd_right _ _) (Nat.gcd_dvd_right _ _)
    · refine Nat.dvd_gcd (Nat.dvd_gcd ?_ ?_) (Nat.dvd_gcd ?_ ?_)
      · exact Nat.gcd_dvd_left _ _
      · exact Nat.dvd_trans (Nat.gcd_dvd_right _ _) (Nat.gcd_dvd_left _ _)
      · exact Nat.gcd_dvd_left _ _
      · exact Nat.dvd_trans (Nat.gcd_dvd_right _ _) (Nat.gcd_dvd_right _ _)
  have ca : Nat.gcd e (Nat.gcd a b) ∣ a := Nat.dvd_trans (Nat.gcd_dvd_right _ _) (Nat.gcd_dvd_left _ _)
  have cb : Nat.gcd e (Nat.gcd a b) ∣ b := Nat.dvd_trans (Nat.gcd_dvd_right _ _) (Nat.gcd_dvd_right _ _)
  have ce : Nat.gcd e (Nat.gcd a b) ∣ e := Nat.gcd_dvd_left _ _
  have x : e * Nat.gcd e (Nat.gcd a b) ∣ Nat.gcd e a * Nat.gcd e b := by
    have y := Nat.gcd_mul_left (Nat.gcd e a) e b
    rw [← y]
    refine Nat.dvd_gcd ?_ ?_
    · have z := Nat.gcd_mul_right e e a
      rw [← z]
      refine Nat.dvd_gcd (Nat.mul_dvd_mul_left e ce) ?_
      rw [Nat.mul_comm a e]
      exact Nat.mul_dvd_mul_left e ca
    · have z := Nat.gcd_mul_right e b a
      rw [← z]
      refine Nat.dvd_gcd (Nat.mul_dvd_mul_left e cb) ?_
      rw [← Nat.gcd_mul_lcm a b, Nat.mul_comm (Nat.gcd a b)]
      exact Nat.mul_dvd_mul h (Nat.gcd_dvd_right _ _)
  rw [← Nat.gcd_mul_lcm (Nat.gcd e a) (Nat.gcd e b), cg, Nat.mul_comm e] at x
  exact Nat.dvd_of_mul_dvd_mul_left c0 x
theorem gcd_lcm_dvd {a b d t : Nat} (d0 : 0 < d) (ha : Nat.gcd a d ∣ t) (hb : Nat.gcd b d ∣ t) : Nat.gcd (Nat.lcm a b) d ∣ t := by
  have e0 : 0 < Nat.gcd (Nat.lcm a b) d := Nat.gcd_pos_of_pos_right _ d0
  refine Nat.dvd_trans (dvd_lcm_gcd e0 (Nat.gcd_dvd_left _ _)) (Nat.lcm_dvd ?_ ?_)
  · refine Nat.dvd_trans (Nat.dvd_gcd (Nat.gcd_dvd_right _ _) ?_) ha
    exact Nat.dvd_trans (Nat.gcd_dvd_left _ _) (Nat.gcd_dvd_right _ _)
  · refine Nat.dvd_trans (Nat.dvd_gcd (Nat.gcd_dvd_right _ _) ?_) hb
    exact Nat.dvd_trans (Nat.gcd_dvd_left _ _) (Nat.gcd_dvd_right _ _)
def all_lcm : List (Nat × Nat) → Nat
  | [] => 1
  | p :: l => Nat.lcm p.2 (all_lcm l)
theorem all_lcm_dvd : ∀ (l : List (Nat × Nat)) (n : Nat), all_lcm l ∣ n ↔ ∀ p ∈ l, p.2 ∣ n
  | [], n => ⟨fun _ _ m => (nomatch m), fun _ => Nat.one_dvd n⟩
  | p :: l, n => by
    rw [all_lcm]
    constructor
    · intro h q m
      rcases List.mem_cons.mp m with rfl | m
      · exact Nat.dvd_trans (Nat.dvd_lcm_left _ _) h
      · exact (all_lcm_dvd l n).mp (Nat.dvd_trans (Nat.dvd_lcm_right _ _) h) q m
    · intro h
      exact Nat.lcm_dvd (h p List.mem_cons_self) ((all_lcm_dvd l n).mpr fun q m => h q (List.mem_cons_of_mem p m))
theorem gcd_all {d t : Nat} (d0 : 0 < d) : ∀ (l : List (Nat × Nat)), (∀ p ∈ l, Nat.gcd p.2 d ∣ t) → Nat.gcd (all_lcm l) d ∣ t
  | [], _ => by rw [all_lcm, Nat.gcd_one_left]; exact Nat.one_dvd t
  | p :: l, h => gcd_lcm_dvd d0 (h p List.mem_cons_self) (gcd_all d0 l fun q m => h q (List.mem_cons_of_mem p m))
/-- where each two agree, the state so far agrees with the next -/
theorem fits {l : List (Nat × Nat)} {x m r k : Nat} (h : Told l (some (x, m))) (k0 : 0 < k) (a : ∀ p ∈ l, ((Nat.gcd p.2 k : Nat) : Int) ∣ (r : Int) - (p.1 : Int)) :
    ((Nat.gcd m k : Nat) : Int) ∣ (r : Int) - (x : Int) := by
  obtain ⟨m0, h1, h2⟩ := h
  dsimp only at m0 h1 h2
  have e : m = all_lcm l := Nat.dvd_antisymm ((h2 _).mpr ((all_lcm_dvd l _).mp (Nat.dvd_refl _))) ((all_lcm_dvd l _).mpr ((h2 _).mp (Nat.dvd_refl _)))
  have s : ∀ p ∈ l, Al p.2 x p.1 := (h1 x).mp ⟨0, by simp⟩
  have g := gcd_all (t := ((r : Int) - (x : Int)).natAbs) k0 l fun p q => by
    have d1 := a p q
    have d2 : ((Nat.gcd p.2 k : Nat) : Int) ∣ (x : Int) - (p.1 : Int) := Int.dvd_trans (Int.natCast_dvd_natCast.mpr (Nat.gcd_dvd_left _ _)) (s p q)
    obtain ⟨u, hu⟩ := d1
    obtain ⟨v, hv⟩ := d2
    have d3 : ((Nat.gcd p.2 k : Nat) : Int) ∣ (r : Int) - (x : Int) := ⟨u - v, by rw [Int.mul_sub]; omega⟩
    have := Int.natAbs_dvd_natAbs.mpr d3
    simpa using this
  rw [← e] at g
  exact Int.dvd_natAbs.mp (Int.natCast_dvd_natCast.mpr g)
theorem told_join {l : List (Nat × Nat)} {x m r k x' : Nat} (h : Told l (some (x, m))) (hk : 0 < k) (b2 : Al m x' x) (b3 : Al k x' r) : Told (l ++ [(r, k)]) (some (x', Nat.lcm m k)) := by
  obtain ⟨m0, h1, h2⟩ := h
  dsimp only at m0 h1 h2
  refine ⟨Nat.lcm_pos m0 hk, fun z => ?_, fun n => ?_⟩
  · dsimp only
    rw [al_lcm]
    constructor
    · rintro ⟨c1, c2⟩ p q
      rcases List.mem_append.mp q with q | q
      · exact (h1 z).mp (al_trans c1 b2) p q
      · rw [List.mem_singleton.mp q]
        exact al_trans c2 b3
    · intro c
      refine ⟨al_trans ((h1 z).mpr fun p q => c p (List.mem_append_left _ q)) (al_symm b2), al_trans (c (r, k) (by simp)) (al_symm b3)⟩
  · dsimp only
    constructor
    · intro c p q
      rcases List.mem_append.mp q with q | q
      · exact (h2 n).mp (Nat.dvd_trans (Nat.dvd_lcm_left m k) c) p q
      · rw [List.mem_singleton.mp q]
        exact Nat.dvd_trans (Nat.dvd_lcm_right m k) c
    · intro c
      exact Nat.lcm_dvd ((h2 n).mpr fun p q => c p (List.mem_append_left _ q)) (c (r, k) (by simp))
end Rs
/-! rests: the same over the program's lists of whole numbers. -/
namespace Rs
open Rb12
/-- the pairs that the specification takes -/
def L (rs ms : List Int) : List (Nat × Nat) := ((rs.map Int.toNat).zip (ms.map Int.toNat)).map fun p => (p.1, by_ p.2)
structure Bd (lo : Int) (l : List Int) : Prop where
  all : ∀ x ∈ l, lo ≤ x ∧ x ≤ 18446744073709551616
structure Ask (rs ms : List Int) : Prop where
  len : ms.length = rs.length
  most : rs.length ≤ 64
  r : ∀ x ∈ rs, 0 ≤ x ∧ x ≤ 18446744073709551615
  m : ∀ x ∈ ms, 0 ≤ x ∧ x ≤ 18446744073709551615
/-- the divisors, as the walk tells them -/
def D (ms : List Int) : List Int := (ms.filter fun _ => true).map Pw.W
theorem D_eq (ms : List Int) : D ms = ms.map Pw.W := by
  unfold D
  rw [List.filter_eq_self.mpr (fun _ _ => rfl)]
theorem getD_at {l : List Int} {i : Nat} (h : i < l.length) : l.getD i 0 = l[i] := by simp [List.getD, h]
theorem mem_at {l : List Int} {i : Nat} (h : i < l.length) : l.getD i 0 ∈ l := by rw [getD_at h]; exact List.getElem_mem h
theorem map_at {ms : List Int} {i : Nat} (h : i < ms.length) : (ms.map Pw.W).getD i 0 = Pw.W (ms.getD i 0) := by
  rw [getD_at h, getD_at (by simpa using h)]
  simp
theorem Ask.bd_r {rs ms : List Int} (h : Ask rs ms) : Bd 0 rs := ⟨fun x m => by have := h.r x m; omega⟩
theorem Ask.bd_m {rs ms : List Int} (h : Ask rs ms) : Bd 1 (ms.map Pw.W) := ⟨fun x m => by
  obtain ⟨y, ym, rfl⟩ := List.mem_map.mp m
  have b := h.m y ym
  have := Pw.W_pos b.1 b.2
  omega⟩
theorem L_len {rs ms : List Int} (h : Ask rs ms) : (L rs ms).length = rs.length := by
  unfold L
  simp [h.len]
theorem L_at {rs ms : List Int} (h : Ask rs ms) {i : Nat} (l : i < rs.length) : (L rs ms)[i]? = some ((rs.getD i 0).toNat, (Pw.W (ms.getD i 0)).toNat) := by
  have lm : i < ms.length := by have := h.len; omega
  rw [Pw.W_nat (h.m _ (mem_at lm)).1, getD_at l, getD_at lm]
  unfold L
  rw [List.getElem?_map, (List.getElem?_zip_eq_some (z := (rs[i].toNat, ms[i].toNat))).mpr ⟨by simp [l], by simp [lm]⟩]
  rfl
theorem L_mem {rs ms : List Int} (h : Ask rs ms) {p : Nat × Nat} (m : p ∈ L rs ms) : 0 < p.2 ∧ p.2 ≤ 2 ^ 64 := by
  obtain ⟨i, l, e⟩ := List.mem_iff_getElem.mp m
  have l2 : i < rs.length := by rw [← L_len h]; exact l
  have lm : i < ms.length := by have := h.len; omega
  have a := L_at h l2
  rw [List.getElem?_eq_getElem l, e] at a
  have b := h.m _ (mem_at lm)
  have w := Pw.W_pos b.1 b.2
  have e2 := congrArg Prod.snd (Option.some.inj a)
  dsimp only at e2
  omega
theorem take_more {rs ms : List Int} (h : Ask rs ms) {i : Nat} (l : i < rs.length) : (L rs ms).take (i + 1) = (L rs ms).take i ++ [((rs.getD i 0).toNat, (Pw.W (ms.getD i 0)).toNat)] := by
  rw [List.take_add_one, L_at h l]
  rfl
/-- two agree -/
def Ok (rs ms : List Int) (i j : Nat) : Prop := Int.fmod (rs.getD i 0 - rs.getD j 0) (Cm.G (Pw.W (ms.getD i 0)) (Pw.W (ms.getD j 0))) = 0
structure In (rs ms : List Int) (i n : Nat) : Prop where
  ok : ∀ j, j < n → Ok rs ms i j
structure Ag (rs ms : List Int) (n : Nat) : Prop where
  ok : ∀ i, i < n → ∀ j, j < i → Ok rs ms i j
theorem in_start {rs ms : List Int} {i : Nat} : In rs ms i ([] : List Int).length := ⟨fun j h => absurd h (by simp)⟩
theorem ag_start {rs ms : List Int} : Ag rs ms ([] : List Int).length := ⟨fun j h => absurd h (by simp)⟩
theorem in_turn {rs ms pre out : List Int} {k K a b c d : Int} (t : Int.fmod (a - b) (Cm.G c d) = 0) (ea : a = rs.getD K.toNat 0) (eb : b = rs.getD k.toNat 0) (ec : c = Pw.W (ms.getD K.toNat 0)) (ed : d = Pw.W (ms.getD k.toNat 0))
    (h : In rs ms out.length pre.length) (hK : K = 0 + (out.length : Int)) (hk : k = 0 + (pre.length : Int)) : In rs ms out.length (pre ++ [k]).length := by
  refine ⟨fun j l => ?_⟩
  have e : (pre ++ [k]).length = pre.length + 1 := by simp
  have eK : K.toNat = out.length := by omega
  rw [eK] at ea ec
  by_cases g : j < pre.length
  · exact h.ok j g
  · have : j = k.toNat := by omega
    subst this
    unfold Ok
    rw [← ea, ← eb, ← ec, ← ed]
    exact t
theorem ag_turn {rs ms pre : List Int} {m : Nat} {k : Int} (h : Ag rs ms pre.length) (g : In rs ms pre.length m) (hm : m = pre.length) : Ag rs ms (pre ++ [k]).length := by
  refine ⟨fun i l j lj => ?_⟩
  have e : (pre ++ [k]).length = pre.length + 1 := by simp
  by_cases c : i < pre.length
  · exact h.ok i c j lj
  · have : i = pre.length := by omega
    subst this
    exact g.ok j (by omega)
theorem G_nat (a b : Int) : Cm.G a b = ((Nat.gcd a.toNat b.toNat : Nat) : Int) := rfl
theorem G_pos {a b : Int} (b0 : 0 < b) : 0 < Cm.G a b := by
  rw [G_nat]
  have := Nat.gcd_pos_of_pos_right a.toNat (show 0 < b.toNat by omega)
  omega
theorem ok_dvd {rs ms : List Int} (h : Ask rs ms) {i j : Nat} (li : i < rs.length) (lj : j < rs.length) :
    Ok rs ms i j ↔ ((Nat.gcd (Pw.W (ms.getD j 0)).toNat (Pw.W (ms.getD i 0)).toNat : Nat) : Int) ∣ ((rs.getD i 0).toNat : Int) - ((rs.getD j 0).toNat : Int) := by
  unfold Ok
  have bi := h.r _ (mem_at li)
  have bj := h.r _ (mem_at lj)
  have mj := h.m (ms.getD j 0) (mem_at (by have := h.len; omega))
  have w := Pw.W_pos mj.1 mj.2
  rw [Int.fmod_eq_emod_of_nonneg _ (Int.le_of_lt (G_pos w.1)), G_nat, Nat.gcd_comm, Int.toNat_of_nonneg bi.1, Int.toNat_of_nonneg bj.1]
  exact ⟨Int.dvd_of_emod_eq_zero, Int.emod_eq_zero_of_dvd⟩
theorem spec {rs ms : List Int} : PyRb12.rests rs ms = ans (((rs.map Int.toNat).zip (ms.map Int.toNat)).foldl (fun x p => both x p.1 (by_ p.2)) (some (0, 1))) := by
  show (match ((rs.map Int.toNat).zip (ms.map Int.toNat)).foldl (fun (x : Option (Nat × Nat)) (p : Nat × Nat) => both x p.1 (by_ p.2)) (some (0, 1)) with
    | none => [-1]
    | some x => if BIG < x.2 then [-2] else [0, nat (x.1 % x.2), nat (x.2 % BIG)]) = _
  cases ((rs.map Int.toNat).zip (ms.map Int.toNat)).foldl (fun (x : Option (Nat × Nat)) (p : Nat × Nat) => both x p.1 (by_ p.2)) (some (0, 1)) <;> rfl
theorem told {rs ms : List Int} (h : Ask rs ms) : Told (L rs ms) (((rs.map Int.toNat).zip (ms.map Int.toNat)).foldl (fun x p => both x p.1 (by_ p.2)) (some (0, 1))) := by
  have := told_fold ((rs.map Int.toNat).zip (ms.map Int.toNat)) [] (some (0, 1)) (fun p m => ?_) told_nil
  · rw [List.nil_append] at this
    exact this
  · obtain ⟨p1, p2⟩ := p
    have m2 := (List.of_mem_zip m).2
    obtain ⟨y, ym, e⟩ := List.mem_map.mp m2
    have := h.m y ym
    dsimp only
    omega
theorem answer {rs ms : List Int} (h : Ask rs ms) {s : Option (Nat × Nat)} (t : Told (L rs ms) s) : PyRb12.rests rs ms = ans s := by
  rw [spec]
  exact ans_only (told h) t
/-- two that don't agree: no number -/
theorem end_none {rs ms : List Int} (h : Ask rs ms) {i j : Nat} (li : i < rs.length) (lj : j < i) (n : ¬ Ok rs ms i j) : PyRb12.rests rs ms = [-1] := by
  have lj2 : j < rs.length := by omega
  have t : Told (L rs ms) none := by
    intro z c
    refine n ((ok_dvd h li lj2).mpr ?_)
    obtain ⟨u, hu⟩ := c _ (List.mem_of_getElem? (L_at h li))
    obtain ⟨v, hv⟩ := c _ (List.mem_of_getElem? (L_at h lj2))
    dsimp only at hu hv
    obtain ⟨p, hp⟩ := Nat.gcd_dvd_left (Pw.W (ms.getD j 0)).toNat (Pw.W (ms.getD i 0)).toNat
    obtain ⟨q, hq⟩ := Nat.gcd_dvd_right (Pw.W (ms.getD j 0)).toNat (Pw.W (ms.getD i 0)).toNat
    generalize Nat.gcd (Pw.W (ms.getD j 0)).toNat (Pw.W (ms.getD i 0)).toNat = g at *
    rw [hq, Int.natCast_mul] at hu
    rw [hp, Int.natCast_mul] at hv
    refine ⟨(p : Int) * v - (q : Int) * u, ?_⟩
    grind
  rw [answer h t]
  rfl
/-- each two agree: the pairs so far agree with the next -/
theorem next_dvd {rs ms : List Int} (h : Ask rs ms) (a : Ag rs ms rs.length) {i x m : Nat} (li : i < rs.length) (t : Told ((L rs ms).take i) (some (x, m))) :
    ((Nat.gcd m (Pw.W (ms.getD i 0)).toNat : Nat) : Int) ∣ ((rs.getD i 0).toNat : Int) - (x : Int) := by
  have mi := h.m (ms.getD i 0) (mem_at (by have := h.len; omega))
  have w := Pw.W_pos mi.1 mi.2
  refine fits t (by omega) fun p q => ?_
  obtain ⟨j, lj, e⟩ := List.mem_iff_getElem.mp q
  rw [List.length_take] at lj
  rw [List.getElem_take] at e
  have lj2 : j < rs.length := by omega
  have b := L_at h lj2
  rw [List.getElem?_eq_getElem (by omega), e] at b
  have e2 := Option.some.inj b
  subst e2
  exact (ok_dvd h li lj2).mp (a.ok i li j (by omega))
theorem some_next {x m r k : Nat} (m0 : 0 < m) (k0 : 0 < k) (kl : k ≤ 2 ^ 64) (d : ((Nat.gcd m k : Nat) : Int) ∣ (r : Int) - (x : Int)) : ∃ y, both (some (x, m)) r k = some y := by
  have g0 : 0 < Nat.gcd m k := Nat.gcd_pos_of_pos_left k m0
  have co : Nat.gcd (m / Nat.gcd m k) (k / Nat.gcd m k) = 1 := Nat.gcd_div_gcd_div_gcd_of_pos_left m0
  have q0 : 0 < k / Nat.gcd m k := Nat.div_pos (Nat.le_of_dvd k0 (Nat.gcd_dvd_right m k)) g0
  have ql : k / Nat.gcd m k ≤ 2 ^ 64 := Nat.le_trans (Nat.div_le_self _ _) kl
  obtain ⟨i, hi, _, _⟩ := Iv.spec_some q0 ql co
  unfold both
  simp only [Option.bind_some]
  rw [if_neg (by simpa using Int.emod_eq_zero_of_dvd d), hi]
  exact ⟨_, rfl⟩
theorem some_all {rs ms : List Int} (h : Ask rs ms) (a : Ag rs ms rs.length) : ∀ n, n ≤ rs.length → ∃ y, Told ((L rs ms).take n) (some y)
  | 0, _ => ⟨(0, 1), by rw [List.take_zero]; exact told_nil⟩
  | n + 1, l => by
    obtain ⟨⟨x, m⟩, t⟩ := some_all h a n (by omega)
    have li : n < rs.length := by omega
    have mi := h.m (ms.getD n 0) (mem_at (by have := h.len; omega))
    have w := Pw.W_pos mi.1 mi.2
    obtain ⟨y, hy⟩ := some_next (x := x) (m := m) (r := (rs.getD n 0).toNat) (k := (Pw.W (ms.getD n 0)).toNat) t.1 (by omega) (by omega) (next_dvd h a li t)
    have := told_more (r := (rs.getD n 0).toNat) (k := (Pw.W (ms.getD n 0)).toNat) t (by omega) (by omega)
    rw [hy, ← take_more h li] at this
    exact ⟨y, this⟩
/-- the state of the last loop -/
structure St (rs ms : List Int) (n : Nat) (x m : Int) : Prop where
  told : Told ((L rs ms).take n) (some (x.toNat, m.toNat))
theorem st_start {rs ms : List Int} : (0 : Int) ≤ 0 ∧ (0 : Int) < 1 ∧ (1 : Int) ≤ 18446744073709551616 ∧ St rs ms ([] : List Int).length 0 1 :=
  ⟨by decide, by decide, by decide, ⟨by rw [List.length_nil, List.take_zero]; exact told_nil⟩⟩
theorem end_above {rs ms : List Int} (h : Ask rs ms) (a : Ag rs ms rs.length) {n : Nat} {x m : Int} (t : St rs ms n x m) (m1 : 18446744073709551616 < m) : PyRb12.rests rs ms = [-2] := by
  obtain ⟨y, ty⟩ := some_all h a rs.length (Nat.le_refl _)
  rw [← L_len h, List.take_length] at ty
  rw [answer h ty]
  have d : m.toNat ∣ y.2 := (t.told.2.2 y.2).mpr fun p q => (ty.2.2 y.2).mp (Nat.dvd_refl _) p (List.mem_of_mem_take q)
  have := Nat.le_of_dvd ty.1 d
  unfold ans
  dsimp only
  have b : BIG = 18446744073709551616 := by decide
  rw [if_pos (by omega)]
theorem end_all {rs ms : List Int} (h : Ask rs ms) {n : Nat} {x m : Int} (l : n = rs.length) (t : St rs ms n x m) (x0 : 0 ≤ x) (x1 : x < m) (m1 : m ≤ 18446744073709551616) : PyRb12.rests rs ms = [0, x, Int.fmod m 18446744073709551616] := by
  have ty := t.told
  rw [l, ← L_len h, List.take_length] at ty
  rw [answer h ty]
  unfold ans
  dsimp only
  have b : BIG = 18446744073709551616 := by decide
  rw [if_neg (by omega), Nat.mod_eq_of_lt (by omega), b]
  show [(0 : Int), (x.toNat : Int), ((m.toNat % 18446744073709551616 : Nat) : Int)] = _
  rw [Int.fmod_eq_emod_of_nonneg m (by decide)]
  have e1 : (x.toNat : Int) = x := by omega
  have e2 : ((m.toNat % 18446744073709551616 : Nat) : Int) = m % 18446744073709551616 := by omega
  rw [e1, e2]
end Rs
/-! rests: a turn of the last loop. -/
namespace Rs
open Rb12
def inv (a m : Int) : Int := match Rb12.inverse a.toNat m.toNat with
  | some i => (i : Int)
  | none => 0
/-- what joined_rest hands back -/
def Jn (x M r d : Int) : Int := x + M * Int.fmod (Int.fdiv (r - x) (Cm.G M d) * inv (Int.fdiv M (Cm.G M d)) (Int.fdiv d (Cm.G M d))) (Int.fdiv d (Cm.G M d))
theorem fd {a b : Int} (a0 : 0 ≤ a) (b0 : 0 ≤ b) : Int.fdiv a b = ((a.toNat / b.toNat : Nat) : Int) := by
  rw [Int.fdiv_eq_ediv_of_nonneg a b0, Int.natCast_ediv, Int.toNat_of_nonneg a0, Int.toNat_of_nonneg b0]
theorem G_fact (a b : Int) : 0 < b → 0 < a → 0 < Cm.G a b ∧ Cm.G a b ≤ b ∧ 0 < Int.fdiv b (Cm.G a b) ∧ Int.fdiv b (Cm.G a b) ≤ b ∧ 0 < Int.fdiv a (Cm.G a b) ∧ Int.fdiv a (Cm.G a b) ≤ a := by
  intro b0 a0
  have g0 := G_pos (a := a) b0
  have gl : Nat.gcd a.toNat b.toNat ≤ b.toNat := Nat.le_of_dvd (by omega) (Nat.gcd_dvd_right _ _)
  have gm : Nat.gcd a.toNat b.toNat ≤ a.toNat := Nat.le_of_dvd (by omega) (Nat.gcd_dvd_left _ _)
  have gn := G_nat a b
  have gt : (Cm.G a b).toNat = Nat.gcd a.toNat b.toNat := by omega
  rw [fd (by omega) (by omega), fd (by omega) (by omega), gt]
  have p : 0 < Nat.gcd a.toNat b.toNat := by omega
  have d1 := Nat.div_pos gl p
  have d2 := Nat.div_le_self b.toNat (Nat.gcd a.toNat b.toNat)
  have d3 := Nat.div_pos gm p
  have d4 := Nat.div_le_self a.toNat (Nat.gcd a.toNat b.toNat)
  generalize b.toNat / Nat.gcd a.toNat b.toNat = u at *
  generalize a.toNat / Nat.gcd a.toNat b.toNat = v at *
  refine ⟨g0, ?_, ?_, ?_, ?_, ?_⟩ <;> omega
theorem co {a b : Int} (a0 : 0 < a) (b0 : 0 < b) : Nat.gcd (Int.fdiv a (Cm.G a b)).toNat (Int.fdiv b (Cm.G a b)).toNat = 1 := by
  have g0 := G_pos (a := a) b0
  have gn := G_nat a b
  have gt : (Cm.G a b).toNat = Nat.gcd a.toNat b.toNat := by omega
  rw [fd (by omega) (by omega), fd (by omega) (by omega), gt, Int.toNat_natCast, Int.toNat_natCast]
  exact Nat.gcd_div_gcd_div_gcd_of_pos_left (by omega)
/-- the loop of inverse_by never tells none here -/
theorem no_none {M d b r g f : Int} (i : Iv.Inv (Int.fdiv M (Cm.G M d)) (Int.fdiv d (Cm.G M d)) b r g f) (M0 : 0 < M) (d0 : 0 < d) (b0 : 0 < b) (r0 : 0 ≤ r) (r1 : ¬ 0 < r) (n : ¬ b = 1) : False := by
  have := Iv.out_gcd i r0 r1
  rw [co M0 d0] at this
  omega
theorem inv_of {a m b r g f : Int} (i : Iv.Inv a m b r g f) (a0 : 0 ≤ a) (m0 : 0 < m) (m1 : m ≤ 18446744073709551616) (b1 : b = 1) (r0 : 0 ≤ r) (r1 : ¬ 0 < r) (g0 : 0 ≤ g) (g1 : g < m) : g = inv a m := by
  have k := Iv.out_gcd i r0 r1
  obtain ⟨x, e, x1, xd⟩ := Iv.spec_some (a := a.toNat) (m := m.toNat) (by omega) (by omega) (by omega)
  unfold inv
  rw [e]
  rw [Int.toNat_of_nonneg (by omega), Int.toNat_of_nonneg a0] at xd
  have hg : m ∣ a * g - 1 := by rw [← b1]; exact i.hb
  show g = (x : Int)
  exact Iv.only hg xd g0 g1 (by omega) (by omega)
theorem jtree {x M v d b r g f : Int} (i : Iv.Inv (Int.fdiv M (Cm.G M d)) (Int.fdiv d (Cm.G M d)) b r g f) (M0 : 0 < M) (d0 : 0 < d) (d1 : d ≤ 18446744073709551616) (b1 : b = 1) (r0 : 0 ≤ r) (r1 : ¬ 0 < r) (g0 : 0 ≤ g) (g1 : g < Int.fdiv d (Cm.G M d)) :
    x + M * Int.fmod (Int.fdiv (v - x) (Cm.G M d) * g) (Int.fdiv d (Cm.G M d)) = Jn x M v d := by
  have q := G_fact M d d0 M0
  unfold Jn
  rw [← inv_of i (by omega) (by omega) (by omega) b1 r0 r1 g0 g1]
theorem lcm_eq {M d : Int} (M0 : 0 < M) (d0 : 0 < d) : Int.fdiv M (Cm.G M d) * d = ((Nat.lcm M.toNat d.toNat : Nat) : Int) := by
  have g0 := G_pos (a := M) d0
  have gn := G_nat M d
  have gt : (Cm.G M d).toNat = Nat.gcd M.toNat d.toNat := by omega
  rw [fd (by omega) (by omega), gt]
  unfold Nat.lcm
  rw [Nat.mul_comm M.toNat, Nat.mul_div_assoc _ (Nat.gcd_dvd_left _ _), Nat.mul_comm, Int.natCast_mul, Int.toNat_of_nonneg (Int.le_of_lt d0)]
theorem join {x M v d : Int} (x0 : 0 ≤ x) (x1 : x < M) (v0 : 0 ≤ v) (d0 : 0 < d) (d1 : d ≤ 18446744073709551616) (h : ((Nat.gcd M.toNat d.toNat : Nat) : Int) ∣ (v.toNat : Int) - (x.toNat : Int)) :
    0 ≤ Jn x M v d ∧ Jn x M v d < Int.fdiv M (Cm.G M d) * d ∧ Al M.toNat (Jn x M v d).toNat x.toNat ∧ Al d.toNat (Jn x M v d).toNat v.toNat := by
  have M0 : 0 < M := by omega
  have gf := G_fact M d d0 M0
  have cc := co M0 d0
  obtain ⟨i, ie, i1, idv⟩ := Iv.spec_some (a := (Int.fdiv M (Cm.G M d)).toNat) (m := (Int.fdiv d (Cm.G M d)).toNat) (by omega) (by omega) cc
  have hi : inv (Int.fdiv M (Cm.G M d)) (Int.fdiv d (Cm.G M d)) = (i : Int) := by
    unfold inv
    rw [ie]
  rw [Int.toNat_of_nonneg (by omega), Int.toNat_of_nonneg (by omega)] at idv
  have gM : M = Cm.G M d * Int.fdiv M (Cm.G M d) := by
    rw [fd (by omega) (by omega), G_nat, Int.toNat_natCast, ← Int.natCast_mul, Nat.mul_div_cancel' (Nat.gcd_dvd_left _ _)]
    omega
  have gd : d = Cm.G M d * Int.fdiv d (Cm.G M d) := by
    rw [fd (by omega) (by omega), G_nat, Int.toNat_natCast, ← Int.natCast_mul, Nat.mul_div_cancel' (Nat.gcd_dvd_right _ _)]
    omega
  rw [← G_nat, Int.toNat_of_nonneg v0, Int.toNat_of_nonneg x0] at h
  obtain ⟨q, hq⟩ := h
  have fq : Int.fdiv (v - x) (Cm.G M d) = q := by
    rw [hq, Int.mul_fdiv_cancel_left q (by omega)]
  have jd : Jn x M v d = x + M * Int.fmod (q * (i : Int)) (Int.fdiv d (Cm.G M d)) := by
    unfold Jn
    rw [hi, fq]
  have t0 := Int.fmod_nonneg_of_pos (q * (i : Int)) gf.2.2.1
  have t1 := Int.fmod_lt_of_pos (q * (i : Int)) gf.2.2.1
  have te := Iv.fmod_eq (q * (i : Int)) (Int.fdiv d (Cm.G M d))
  rw [jd]
  generalize Int.fmod (q * (i : Int)) (Int.fdiv d (Cm.G M d)) = t at *
  generalize Int.fdiv (q * (i : Int)) (Int.fdiv d (Cm.G M d)) = s at *
  have m0 : 0 ≤ M * t := Int.mul_nonneg (by omega) t0
  have up : M * t ≤ M * (Int.fdiv d (Cm.G M d) - 1) := Int.mul_le_mul_of_nonneg_left (by omega) (by omega)
  have ml : Int.fdiv M (Cm.G M d) * d = M * Int.fdiv d (Cm.G M d) := by
    generalize Int.fdiv M (Cm.G M d) = a at *
    generalize Int.fdiv d (Cm.G M d) = b at *
    generalize Cm.G M d = g at *
    rw [gM, gd]
    grind
  refine ⟨by omega, ?_, ?_, ?_⟩
  · rw [ml]
    rw [Int.mul_sub] at up
    omega
  · refine ⟨t, ?_⟩
    rw [Int.toNat_of_nonneg (by omega), Int.toNat_of_nonneg (by omega), Int.toNat_of_nonneg (by omega)]
    omega
  · unfold Al
    rw [Int.toNat_of_nonneg (by omega), Int.toNat_of_nonneg (by omega), Int.toNat_of_nonneg (by omega)]
    generalize Int.fdiv M (Cm.G M d) = a at *
    generalize Int.fdiv d (Cm.G M d) = b at *
    generalize Cm.G M d = g at *
    obtain ⟨w, hw⟩ := idv
    refine ⟨q * w - a * s, ?_⟩
    have e1 : x + M * t - v = g * (a * t - q) := by
      have : x - v = - (g * q) := by omega
      rw [gM]
      grind
    rw [e1, gd]
    grind
theorem st_next {rs ms : List Int} (h : Ask rs ms) (a : Ag rs ms rs.length) {n : Nat} {x M v d d2 d3 : Int} (l : n < rs.length) (t : St rs ms n x M) (x0 : 0 ≤ x) (x1 : x < M) (ev : v = rs.getD n 0)
    (ed : d = Pw.W (ms.getD n 0)) (ed2 : d2 = Pw.W (ms.getD n 0)) (ed3 : d3 = Pw.W (ms.getD n 0)) :
    0 ≤ Jn x M v d ∧ Jn x M v d < Int.fdiv M (Cm.G M d2) * d3 ∧ St rs ms (n + 1) (Jn x M v d) (Int.fdiv M (Cm.G M d2) * d3) := by
  have e2 : d2 = d := by rw [ed, ed2]
  have e3 : d3 = d := by rw [ed, ed3]
  subst e2 e3
  have bv := h.r v (by rw [ev]; exact mem_at l)
  have mi := h.m (ms.getD n 0) (mem_at (by have := h.len; omega))
  have w := Pw.W_pos mi.1 mi.2
  have nd := next_dvd h a l t.told
  rw [← ed, ← ev] at nd
  have j := join x0 x1 bv.1 (d := d3) (by omega) (by omega) nd
  refine ⟨j.1, j.2.1, ⟨?_⟩⟩
  rw [take_more h l, ← ed, ← ev, lcm_eq (by omega) (by omega), Int.toNat_natCast]
  exact told_join t.told (by omega) j.2.2.1 j.2.2.2
theorem st_turn {rs ms pre : List Int} {n : Nat} {x M v d d2 d3 k : Int} (t : St rs ms pre.length x M) (h : Ask rs ms) (a : Ag rs ms n) (hn : n = rs.length) (hk : k = 0 + (pre.length : Int)) (l : pre.length < rs.length) (x0 : 0 ≤ x) (x1 : x < M) (ev : v = rs.getD k.toNat 0)
    (ed : d = Pw.W (ms.getD k.toNat 0)) (ed2 : d2 = Pw.W (ms.getD k.toNat 0)) (ed3 : d3 = Pw.W (ms.getD k.toNat 0)) (m1 : ¬ 18446744073709551616 < Int.fdiv M (Cm.G M d2) * d3) :
    0 ≤ Jn x M v d ∧ Jn x M v d < Int.fdiv M (Cm.G M d2) * d3 ∧ Int.fdiv M (Cm.G M d2) * d3 ≤ 18446744073709551616 ∧ St rs ms (pre ++ [k]).length (Jn x M v d) (Int.fdiv M (Cm.G M d2) * d3) := by
  have e : k.toNat = pre.length := by omega
  rw [e] at ev ed ed2 ed3
  rw [hn] at a
  have q := st_next h a l t x0 x1 ev ed ed2 ed3
  refine ⟨q.1, q.2.1, by omega, ?_⟩
  rw [List.length_append]
  exact q.2.2
theorem st_above {rs ms pre : List Int} {n : Nat} {x M v d d2 d3 k : Int} (t : St rs ms pre.length x M) (h : Ask rs ms) (a : Ag rs ms n) (hn : n = rs.length) (hk : k = 0 + (pre.length : Int)) (l : pre.length < rs.length) (x0 : 0 ≤ x) (x1 : x < M) (ev : v = rs.getD k.toNat 0)
    (ed : d = Pw.W (ms.getD k.toNat 0)) (ed2 : d2 = Pw.W (ms.getD k.toNat 0)) (ed3 : d3 = Pw.W (ms.getD k.toNat 0)) (m1 : 18446744073709551616 < Int.fdiv M (Cm.G M d2) * d3) : PyRb12.rests rs ms = [-2] := by
  have e : k.toNat = pre.length := by omega
  rw [e] at ev ed ed2 ed3
  rw [hn] at a
  have q := st_next h a l t x0 x1 ev ed ed2 ed3
  exact end_above h a q.2.2 m1
theorem not_ok {rs ms pre out : List Int} {k K a b c d : Int} (n : ¬ Int.fmod (a - b) (Cm.G c d) = 0) (ea : a = rs.getD K.toNat 0) (eb : b = rs.getD k.toNat 0) (ec : c = Pw.W (ms.getD K.toNat 0)) (ed : d = Pw.W (ms.getD k.toNat 0))
    (h : Ask rs ms) (hK : K = 0 + (out.length : Int)) (l : out.length < rs.length) (hk : k = 0 + (pre.length : Int)) (l2 : pre.length < out.length) : PyRb12.rests rs ms = [-1] := by
  refine end_none h (i := K.toNat) (j := k.toNat) (by omega) (by omega) ?_
  unfold Ok
  rw [← ea, ← eb, ← ec, ← ed]
  exact n
end Rs
namespace Stp
open PySem PySem.W PySem.Calls PyProof.Rows
section
variable {prog : Program} {w : World} {A : Around} {E : Value → Shared → Prop} {s : Shared} {x y : Int} {t u : Tok} {Q : Value → Shared → Prop}
theorem log_le {y : Int} (h0 : 0 < y) (h1 : y ≤ 18446744073709551616) : y.natAbs.log2 < 9000 := by
  have : y.natAbs.log2 < 65 := (Nat.log2_lt (by omega)).mpr (by omega)
  omega
theorem step_div (hy : 0 < y) (hs : y ≤ 18446744073709551616) (h : Q (.int (Int.fdiv x y) s.toks) { s with toks := s.toks + 1 }) :
    wpAny (model prog w) A (binaryOp .FloorDiv (.int x t) (.int y u)) Q E s :=
  PyProof.Rows.floordiv_int (by omega) h (Or.inl (PyProof.noPylong_of_log2 (log_le hy hs)))
theorem step_mod (hy : 0 < y) (h : 0 ≤ Int.fmod x y → Int.fmod x y < y → Q (.int (Int.fmod x y) s.toks) { s with toks := s.toks + 1 }) :
    wpAny (model prog w) A (binaryOp .Mod (.int x t) (.int y u)) Q E s :=
  PyProof.Rows.mod_int (by omega) (h (Int.fmod_nonneg_of_pos x hy) (Int.fmod_lt_of_pos x hy))
theorem mul_ok (h : (0 ≤ y ∧ y < 18446744073709551616) ∨ (0 ≤ x ∧ x ≤ 18446744073709551616 ∧ 0 ≤ y ∧ y ≤ 18446744073709551616)) : PySem.IntMulOk x y := by
  rcases h with h | h
  · exact PySem.IntMulOk.of_right (PySem.intBits_le_64 (by omega) (by omega))
  · by_cases c : y = 18446744073709551616
    · by_cases d : x = 18446744073709551616
      · subst c d
        exact PySem.IntMulOk.of_bits (by decide) (by decide)
      · exact PySem.IntMulOk.of_left (PySem.intBits_le_64 (by omega) (by omega))
    · exact PySem.IntMulOk.of_right (PySem.intBits_le_64 (by omega) (by omega))
theorem step_mul (hb : (0 ≤ y ∧ y < 18446744073709551616) ∨ (0 ≤ x ∧ x ≤ 18446744073709551616 ∧ 0 ≤ y ∧ y ≤ 18446744073709551616)) (h : Q (.int (x * y) s.toks) { s with toks := s.toks + 1 }) :
    wpAny (model prog w) A (binaryOp .Mult (.int x t) (.int y u)) Q E s :=
  PyProof.Rows.mul_int h (mul_ok hb)
theorem step_r {value slice : PySem.Expr} {l : Addr} {vs : List Value} {rs ms : List Int} {j : Int} (hl : s.heap.IsList l vs.toArray) (hi : IntsAre vs rs) (ha : Rs.Ask rs ms) (h0 : 0 ≤ j) (h1 : j < (rs.length : Int)) (hfit : j < 2 ^ 63)
    (h : ∀ v t, v = rs.getD j.toNat 0 → 0 ≤ v → v ≤ 18446744073709551615 → Q (.int v t) s)
    (hs : subscripted slice false (.ref l) (.int j u) = operate [.ref l, .int j u] (getItem (.ref l) (.int j u)) := by with_unfolding_all rfl) :
    wpAny (model prog w) A (subscriptTail value slice (.ref l) (.int j u)) Q E s := by
  have b := ha.r _ (Rs.mem_at (l := rs) (i := j.toNat) (by omega))
  exact item_anyK hl hi h0 h1 hfit (fun t => h _ t rfl b.1 b.2) hs
theorem step_d {value slice : PySem.Expr} {l : Addr} {vs : List Value} {rs ms ns : List Int} {j : Int} (hl : s.heap.IsList l vs.toArray) (hi : IntsAre vs ns) (ha : Rs.Ask rs ms) (hd : ns = ms.map Pw.W) (h0 : 0 ≤ j) (h1 : j < (ms.length : Int)) (hfit : j < 2 ^ 63)
    (h : ∀ v t, v = Pw.W (ms.getD j.toNat 0) → 1 ≤ v → v ≤ 18446744073709551616 → Q (.int v t) s)
    (hs : subscripted slice false (.ref l) (.int j u) = operate [.ref l, .int j u] (getItem (.ref l) (.int j u)) := by with_unfolding_all rfl) :
    wpAny (model prog w) A (subscriptTail value slice (.ref l) (.int j u)) Q E s := by
  subst hd
  have lj : j.toNat < ms.length := by omega
  have b := ha.m _ (Rs.mem_at lj)
  have q := Pw.W_pos b.1 b.2
  refine item_anyK hl hi h0 (by rw [List.length_map]; exact h1) hfit (fun t => ?_) hs
  rw [Rs.map_at lj]
  exact h _ t rfl (by omega) (by omega)
end
end Stp
open PySem PySem.W PyProof.Rows
local macro_rules | `(tactic| walk_at "binaryOp FloorDiv int int") => `(tactic| (k_here; (with_reducible refine' Stp.step_div ?k1 ?k2 ?_); (case k1 => k_dflt omega); (case k2 => k_dflt omega)))
local macro_rules | `(tactic| walk_at "binaryOp Mod int int") => `(tactic| (k_here; (with_reducible refine' Stp.step_mod ?k1 ?_); (case k1 => k_dflt omega); intro h0' h1'))
local macro_rules | `(tactic| walk_at "binaryOp Mult int int") => `(tactic| (k_here; (with_reducible refine' Stp.step_mul ?k1 ?_); (case k1 => k_dflt omega)))
local macro_rules | `(tactic| walk_at "binaryOp Mult int none") => `(tactic| (k_here; k_dflt (exfalso; exact Rs.no_none (by assumption) (by omega) (by omega) (by omega) (by omega) (by omega) (by omega))))
local macro_rules | `(tactic| walk_at "subscriptTail Name Name ref int") => `(tactic| (k_here; (with_reducible show wpAny _ _ (subscriptTail _ _ (Value.ref _) (Value.int _ _)) _ _ _); (first
  | (with_unfolding_all refine' Stp.step_r ?k1 ?k2 ?k3 ?k4 ?k5 ?k6 ?_ ?k7; (case k1 => is_list); (case k2 => with_reducible assumption); (case k3 => with_reducible assumption); (case k4 => k_dflt omega); (case k5 => k_dflt omega); (case k6 => k_dflt omega); (case k7 => with_unfolding_all rfl); k_whole)
  | (with_unfolding_all refine' Stp.step_d ?k1 ?k2 ?k3 ?k8 ?k4 ?k5 ?k6 ?_ ?k7; (case k1 => is_list); (case k2 => with_reducible assumption); (case k3 => with_reducible assumption); (case k8 => first | rfl | exact Rs.D_eq _ | (simp only [List.filter_true]; rfl)); (case k4 => k_dflt omega); (case k5 => k_dflt omega); (case k6 => k_dflt omega); (case k7 => with_unfolding_all rfl); k_whole)); intro v' t' e' h0' h1'))
local macro_rules | `(tactic| walk_at "CompSrc") => `(tactic| (k_here; k_dflt (
  (refine LCg.CompSrc.base (by rfl) (by k_asm) (by k_asm) (by is_list) (by size_fits) ?_);
  intro g';
  (refine' kcf_list Pw.W (by assumption) (fun k' t' I' oI' C' oC' D' m' ys' h' tk' E' hk' hC' hx' F' N' off' ne' hM' => ?_) ?_);
  (all_goals (try (simp only [LCg.Off3, and_true] at off')));
  kcf_last)))
namespace Rs
open PySem PySem.W
theorem said : PySem.Challenge.rw_made64_s12_rests.wellSaid = true := by decide +kernel
theorem asked {rs ms : List Int} (h : PyRb12.rests_asked rs ms = true) : Ask rs ms ∧ ms.length = rs.length ∧ rs.length ≤ 64 := by
  have q : ((rs.all (fun (z : Int) => Rb12Neutral.natural z 64) && ms.all (fun (z : Int) => Rb12Neutral.natural z 64)) && (decide (rs.length ≤ 64) && decide (ms.length = rs.length))) = true := h
  simp only [Bool.and_eq_true, decide_eq_true_eq, List.all_eq_true, Rb12Neutral.natural] at q
  refine ⟨⟨q.2.2, q.2.1, fun x m => ?_, fun x m => ?_⟩, q.2.2, q.2.1⟩
  · have := q.1.1 x m
    omega
  · have := q.1.2 x m
    omega
theorem named {a b : List Int} (h : PySem.Challenge.rw_made64_s12_rests.pre [ofPy (.list (a.map PyData.int)), ofPy (.list (b.map PyData.int))] = true) :
    ∃ rs ms : List Int, rs = a ∧ ms = b ∧ Ask rs ms ∧ ms.length = rs.length ∧ rs.length ≤ 64 := by
  obtain ⟨v, w, q, e⟩ := os_pre said h
  obtain ⟨x, y, u⟩ := v
  have e1 := os_j_ints (List.cons.inj e).1
  have e2 := os_j_ints (List.cons.inj (List.cons.inj e).2).1
  subst e1 e2
  exact ⟨a, b, rfl, rfl, asked q⟩
theorem fin {rs ms l : List Int} (h : PySem.Challenge.rw_made64_s12_rests.pre [ofPy (.list (rs.map PyData.int)), ofPy (.list (ms.map PyData.int))] = true) (e : PyRb12.rests rs ms = l) :
    PySem.Challenge.rw_made64_s12_rests.post [ofPy (.list (rs.map PyData.int)), ofPy (.list (ms.map PyData.int))] (ofPy (PyData.list (l.map PyData.int))) = true := by
  obtain ⟨v, w, q, ee⟩ := os_pre said h
  obtain ⟨x, y, u⟩ := v
  have e1 := os_j_ints (List.cons.inj ee).1
  have e2 := os_j_ints (List.cons.inj (List.cons.inj ee).2).1
  subst e1 e2
  rw [ee]
  refine os_shut said w ?_
  show ofPy (PyData.list (l.map PyData.int)) = WData.list ((PyRb12.rests rs ms).map WData.int)
  rw [os_list rfl, e]
theorem ag_more {rs ms pre : List Int} {m : Nat} {k : Int} (h : Ag rs ms pre.length) (g : In rs ms pre.length (rangeKs 0 m).length) (hk : k = 0 + (pre.length : Int)) (hm : m = k.toNat) : Ag rs ms (pre ++ [k]).length :=
  ag_turn h g (by rw [rangeKs_length]; omega)
theorem st_turnX {rs ms pre : List Int} {n : Nat} {X x M v d d2 d3 k : Int} (t : St rs ms pre.length x M) (ej : X = Jn x M v d) (h : Ask rs ms) (a : Ag rs ms n) (hn : n = rs.length) (hk : k = 0 + (pre.length : Int)) (l : pre.length < rs.length) (x0 : 0 ≤ x) (x1 : x < M) (ev : v = rs.getD k.toNat 0)
    (ed : d = Pw.W (ms.getD k.toNat 0)) (ed2 : d2 = Pw.W (ms.getD k.toNat 0)) (ed3 : d3 = Pw.W (ms.getD k.toNat 0)) (m1 : ¬ 18446744073709551616 < Int.fdiv M (Cm.G M d2) * d3) :
    0 ≤ X ∧ X < Int.fdiv M (Cm.G M d2) * d3 ∧ Int.fdiv M (Cm.G M d2) * d3 ≤ 18446744073709551616 ∧ St rs ms (pre ++ [k]).length X (Int.fdiv M (Cm.G M d2) * d3) := by
  rw [ej]
  exact st_turn t h a hn hk l x0 x1 ev ed ed2 ed3 m1
theorem fin_all {rs ms : List Int} {m : Nat} {x M : Int} (h : PySem.Challenge.rw_made64_s12_rests.pre [ofPy (.list (rs.map PyData.int)), ofPy (.list (ms.map PyData.int))] = true) (t : St rs ms (rangeKs 0 m).length x M) (a : Ask rs ms) (hm : m = rs.length) (x0 : 0 ≤ x) (x1 : x < M) (m1 : M ≤ 18446744073709551616) :
    PySem.Challenge.rw_made64_s12_rests.post [ofPy (.list (rs.map PyData.int)), ofPy (.list (ms.map PyData.int))] (ofPy (PyData.list [PyData.int 0, PyData.int x, PyData.int (Int.fmod M 18446744073709551616)])) = true :=
  fin h (end_all a (by rw [rangeKs_length, hm]) t x0 x1 m1)
theorem fin_above {rs ms pre : List Int} {m : Nat} {x M v d2 d3 k : Int} (h : PySem.Challenge.rw_made64_s12_rests.pre [ofPy (.list (rs.map PyData.int)), ofPy (.list (ms.map PyData.int))] = true) (m1 : 18446744073709551616 < Int.fdiv M (Cm.G M d2) * d3) (t : St rs ms pre.length x M) (hk : k = 0 + (pre.length : Int)) (ev : v = rs.getD k.toNat 0)
    (ed2 : d2 = Pw.W (ms.getD k.toNat 0)) (ed3 : d3 = Pw.W (ms.getD k.toNat 0)) (a : Ask rs ms) (g : Ag rs ms (rangeKs 0 m).length) (hm : m = rs.length) (l : pre.length < rs.length) (x0 : 0 ≤ x) (x1 : x < M) :
    PySem.Challenge.rw_made64_s12_rests.post [ofPy (.list (rs.map PyData.int)), ofPy (.list (ms.map PyData.int))] (ofPy (PyData.list [PyData.int (-2)])) = true :=
  fin (l := [-2]) h (st_above t a g (by rw [rangeKs_length, hm]) hk l x0 x1 ev rfl ed2 ed3 m1)
theorem fin_none {rs ms pre out : List Int} {k K a b c d : Int} (h : PySem.Challenge.rw_made64_s12_rests.pre [ofPy (.list (rs.map PyData.int)), ofPy (.list (ms.map PyData.int))] = true) (n : ¬ Int.fmod (a - b) (Cm.G c d) = 0) (ea : a = rs.getD K.toNat 0) (eb : b = rs.getD k.toNat 0) (ec : c = Pw.W (ms.getD K.toNat 0)) (ed : d = Pw.W (ms.getD k.toNat 0))
    (q : Ask rs ms) (hK : K = 0 + (out.length : Int)) (hk : k = 0 + (pre.length : Int)) (l : out.length < rs.length) (l2 : pre.length < out.length) :
    PySem.Challenge.rw_made64_s12_rests.post [ofPy (.list (rs.map PyData.int)), ofPy (.list (ms.map PyData.int))] (ofPy (PyData.list [PyData.int (-1)])) = true :=
  fin (l := [-1]) h (not_ok n ea eb ec ed q hK l hk l2)
end Rs
set_option maxRecDepth 100000 in
set_option maxHeartbeats 8000000 in
theorem PySem.Challenge.cw_made64_s12_rests_holds : PySem.Challenge.rw_made64_s12_rests.Holds := by
  k_with "call ref" => first
    | k_call_by "whole_divisor" Pw.W
    | k_call_by "greatest_divisor" Cm.G (fun (a b : Int) => 0 ≤ a ∧ 0 ≤ b)
  k_with "fact greatest_divisor" => exact Rs.G_fact
  k_with "tree" => first
    | exact Cm.out (by assumption) (by omega) (by omega)
    | simp only [Pw.W]
  k_with "state" => first
    | exact Cm.start (by omega) (by omega)
    | exact Cm.turn (by assumption) (by omega) (by omega)
    | exact Iv.start (by omega) (by omega)
    | exact Iv.turn (by assumption) (by omega) (by omega) (by omega) (by omega) (by omega) (by omega)
    | exact Rs.in_start
    | exact Rs.ag_start
    | exact Rs.st_start
    | exact Rs.in_turn (by assumption) (by assumption) (by assumption) (by assumption) (by assumption) (by assumption) (by assumption) (by assumption)
    | exact Rs.ag_more (by assumption) (by assumption) (by assumption) (by omega)
    | exact Rs.st_turnX (by assumption) (by exact Rs.jtree (by assumption) (by omega) (by omega) (by omega) (by omega) (by omega) (by omega) (by omega) (by omega)) (by assumption) (by assumption) (by rw [rangeKs_length]; omega) (by assumption) (by omega) (by omega) (by omega) (by assumption) (by assumption) (by assumption) (by assumption) (by first | assumption | omega)
  k_with "measure" => first
    | exact Cm.less (by omega)
    | exact Iv.less (by omega)
  k_with "exec While Compare cons nil" => first
    | k_while_given ["a", "divisor"] (fun a m _ b r g f => 0 < b ∧ b ≤ m ∧ 0 ≤ r ∧ r < m ∧ 0 ≤ g ∧ g < m ∧ 0 ≤ f ∧ f < 18446744073709551616 ∧ Iv.Inv a m b r g f) (fun _ _ _ _ r _ _ => r.toNat) "before" "rest" "factor_before" "factor"
    | k_while_given ["a", "b"] (fun a b _ d r => 0 ≤ d ∧ 0 ≤ r ∧ Cm.Inv a b d r) (fun _ _ _ _ r => r.toNat) "divisor" "rest"
  k_with "pyIter ref" => first
    | (k_of "i" => k_state (fun pre x M => 0 ≤ x ∧ x < M ∧ M ≤ 18446744073709551616 ∧ Rs.St rs ms pre.length x M) "x" "multiple")
    | (k_of "i" => k_search (fun pre => Rs.Ag rs ms pre.length))
    | (k_of "j" => k_search (fun pre => Rs.In rs ms kPre.length pre.length))
  w_on
  k_headS
  (case hw => exact ⟨[.list [], .list []], by decide +kernel, by decide +kernel⟩)
  w_strict (k_goS0; (all_goals try k_fold); (obtain ⟨rs, ms, e1', e2', ha, hl1, hl2⟩ := Rs.named (by assumption)); (subst e1' e2'); k_steps; (all_goals (try (w_end; sp_is; wrow_close))); (all_goals (try k_data)); all_goals first | sp_left | w_report)
  all_goals first
    | exact Rs.fin_all (by assumption) (by assumption) (by assumption) (by omega) (by omega) (by omega) (by omega)
    | exact Rs.fin_above (by assumption) (by assumption) (by assumption) (by assumption) (by assumption) (by assumption) (by assumption) (by assumption) (by assumption) (by omega) (by omega) (by omega) (by omega)
    | exact Rs.fin_none (by assumption) (by assumption) (by assumption) (by assumption) (by assumption) (by assumption) (by assumption) (by assumption) (by assumption) (by omega) (by omega)
#print axioms PySem.Challenge.cw_made64_s12_rests_holds
