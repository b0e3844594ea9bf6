import PyProof.Rows.All
import KE.OsGo
import KE.OsEnd
import KE.OsArgs
import PySem.Challenge.RW_made64_s10_jacobi
set_option Elab.async false
set_option linter.unusedVariables false
namespace Pw
/-- a to the power e by m, over whole numbers -/
def P (a e m : Int) : Int := ((a.toNat ^ e.toNat % m.toNat : Nat) : Int)
structure Inv (a e m p f l : Int) : Prop where
  is : p.toNat * f.toNat ^ l.toNat % m.toNat = a.toNat ^ e.toNat % m.toNat
theorem fm {d r : Int} (d0 : 0 ≤ d) (r0 : 0 < r) : (Int.fmod d r).toNat = d.toNat % r.toNat := by
  rw [Int.fmod_eq_emod_of_nonneg d (Int.le_of_lt r0)]
  have e1 : d = (d.toNat : Int) := by omega
  have e2 : r = (r.toNat : Int) := by omega
  rw [e1, e2]
  rfl
theorem fd2 {l : Int} (l0 : 0 ≤ l) : (Int.fdiv l 2).toNat = l.toNat / 2 := by
  rw [Int.fdiv_eq_ediv_of_nonneg l (by decide)]
  omega
theorem fm2 {l : Int} : Int.fmod l 2 = l % 2 := Int.fmod_eq_emod_of_nonneg l (by decide)
theorem pow_mod (a m k : Nat) : (a % m) ^ k % m = a ^ k % m := (Nat.pow_mod a k m).symm
theorem mul_mod_l (a b m : Nat) : a % m * b % m = a * b % m := Nat.mod_mul_mod a b m
theorem mul_mod_r (a b m : Nat) : a * (b % m) % m = a * b % m := Nat.mul_mod_mod a b m
theorem toNat_mul {a b : Int} (ha : 0 ≤ a) (hb : 0 ≤ b) : (a * b).toNat = a.toNat * b.toNat := Int.toNat_mul ha hb
theorem start {a e m : Int} (ha : 0 ≤ a) (he : 0 ≤ e) (hm : 0 < m) :
    0 ≤ Int.fmod 1 m ∧ Int.fmod 1 m < m ∧ 0 ≤ Int.fmod a m ∧ Int.fmod a m < m ∧ 0 ≤ e ∧ Inv a e m (Int.fmod 1 m) (Int.fmod a m) e := by
  refine ⟨Int.fmod_nonneg_of_pos 1 hm, Int.fmod_lt_of_pos 1 hm, Int.fmod_nonneg_of_pos a hm, Int.fmod_lt_of_pos a hm, he, ⟨?_⟩⟩
  rw [fm (by decide) hm, fm ha hm, mul_mod_l, ← mul_mod_r, pow_mod, mul_mod_r]
  simp
theorem sq (f l : Nat) : (f * f) ^ (l / 2) * f ^ (l % 2) = f ^ l := by
  rw [← Nat.pow_two, ← Nat.pow_mul, ← Nat.pow_add, Nat.div_add_mod]
theorem even {a e m p f l : Int} (h : Inv a e m p f l) (hm : 0 < m) (p0 : 0 ≤ p) (p1 : p < m) (f0 : 0 ≤ f) (l0 : 0 < l) (hl : ¬ Int.fmod l 2 = 1) :
    0 ≤ p ∧ p < m ∧ 0 ≤ Int.fmod (f * f) m ∧ Int.fmod (f * f) m < m ∧ 0 ≤ Int.fdiv l 2 ∧ Inv a e m p (Int.fmod (f * f) m) (Int.fdiv l 2) := by
  have q := fd2 (Int.le_of_lt l0)
  rw [fm2] at hl
  refine ⟨p0, p1, Int.fmod_nonneg_of_pos _ hm, Int.fmod_lt_of_pos _ hm, ?_, ⟨?_⟩⟩
  · rw [Int.fdiv_eq_ediv_of_nonneg l (by decide)]; omega
  · rw [fm (Int.mul_nonneg f0 f0) hm, toNat_mul f0 f0, q, ← mul_mod_r, pow_mod, mul_mod_r, ← h.is, ← sq f.toNat l.toNat]
    rw [show l.toNat % 2 = 0 by omega]
    simp
theorem odd {a e m p f l : Int} (h : Inv a e m p f l) (hm : 0 < m) (p0 : 0 ≤ p) (f0 : 0 ≤ f) (l0 : 0 < l) (hl : Int.fmod l 2 = 1) :
    0 ≤ Int.fmod (p * f) m ∧ Int.fmod (p * f) m < m ∧ 0 ≤ Int.fmod (f * f) m ∧ Int.fmod (f * f) m < m ∧ 0 ≤ Int.fdiv l 2 ∧ Inv a e m (Int.fmod (p * f) m) (Int.fmod (f * f) m) (Int.fdiv l 2) := by
  have q := fd2 (Int.le_of_lt l0)
  rw [fm2] at hl
  refine ⟨Int.fmod_nonneg_of_pos _ hm, Int.fmod_lt_of_pos _ hm, Int.fmod_nonneg_of_pos _ hm, Int.fmod_lt_of_pos _ hm, ?_, ⟨?_⟩⟩
  · rw [Int.fdiv_eq_ediv_of_nonneg l (by decide)]; omega
  · rw [fm (Int.mul_nonneg f0 f0) hm, toNat_mul f0 f0, fm (Int.mul_nonneg p0 f0) hm, toNat_mul p0 f0, q, mul_mod_l, ← mul_mod_r, pow_mod, mul_mod_r, ← h.is, ← sq f.toNat l.toNat]
    rw [show l.toNat % 2 = 1 by omega, Nat.pow_one, Nat.mul_comm ((f.toNat * f.toNat) ^ (l.toNat / 2)), Nat.mul_assoc]
theorem less {l : Int} (l0 : 0 < l) : (Int.fdiv l 2).toNat < l.toNat := by
  rw [fd2 (Int.le_of_lt l0)]
  omega
theorem out {a e m p f l : Int} (h : Inv a e m p f l) (p0 : 0 ≤ p) (p1 : p < m) (l0 : ¬ 0 < l) : p = P a e m := by
  have e1 := h.is
  rw [show l.toNat = 0 by omega, Nat.pow_zero, Nat.mul_one, Nat.mod_eq_of_lt (by omega)] at e1
  unfold P
  rw [← e1]
  omega
/-! the specification's own powers -/
theorem powerOn_eq : ∀ (f a e m : Nat), e < 2 ^ f → Rb12.powerOn f a e m = a ^ e % m
  | 0, a, e, m, h => by
    rw [show e = 0 by omega]
    rfl
  | f + 1, a, e, m, h => by
    unfold Rb12.powerOn
    by_cases e0 : e = 0
    · rw [if_pos e0, e0]; rfl
    · rw [if_neg e0, powerOn_eq f (a * a % m) (e / 2) m (by rw [Nat.pow_succ] at h; omega), pow_mod]
      dsimp only
      by_cases o : e % 2 = 1
      · rw [if_pos o, mul_mod_r, ← sq a e, o, Nat.pow_one, Nat.mul_comm]
      · rw [if_neg o, ← sq a e, show e % 2 = 0 by omega]
        simp
theorem power_eq {a e m : Nat} (he : e < 2 ^ 65) : Rb12.power a e m = a ^ e % m := by
  unfold Rb12.power
  rw [powerOn_eq 65 _ _ _ he, pow_mod]
def W (m : Int) : Int := if m = 0 then 18446744073709551616 else m
theorem W_nat {m : Int} (m0 : 0 ≤ m) : (W m).toNat = Rb12.by_ m.toNat := by
  unfold W Rb12.by_
  by_cases h : m = 0
  · rw [if_pos h, if_pos (by omega)]; rfl
  · rw [if_neg h, if_neg (by omega)]
theorem W_pos {m : Int} (m0 : 0 ≤ m) (m1 : m ≤ 18446744073709551615) : 0 < W m ∧ W m ≤ 18446744073709551616 := by
  unfold W
  split <;> omega
theorem spec {a e m : Int} (e1 : e ≤ 18446744073709551615) (m0 : 0 ≤ m) : PyRb12.power a e m = [P a e (W m)] := by
  show [Rb12.nat (Rb12.power a.toNat e.toNat (Rb12.by_ m.toNat))] = _
  rw [power_eq (by have : (2 : Nat) ^ 65 = 36893488147419103232 := by decide
                   omega), ← W_nat m0]
  rfl
end Pw
/-! Primes, sums, Gauss's lemma. Core Lean alone. -/
namespace NT
def Prime (p : Nat) : Prop := 2 ≤ p ∧ ∀ d, d ∣ p → d = 1 ∨ d = p
theorem Prime.coprime {p a : Nat} (hp : Prime p) (h : ¬ p ∣ a) : Nat.Coprime p a := by
  have g := hp.2 (Nat.gcd p a) (Nat.gcd_dvd_left p a)
  rcases g with g | g
  · exact g
  · exact absurd (g ▸ Nat.gcd_dvd_right p a) h
theorem Prime.dvd_mul {p a b : Nat} (hp : Prime p) (h : p ∣ a * b) : p ∣ a ∨ p ∣ b := by
  by_cases ha : p ∣ a
  · exact Or.inl ha
  · exact Or.inr ((hp.coprime ha).dvd_of_dvd_mul_left h)
/-- the sum over 1 .. n -/
def S (f : Nat → Nat) : Nat → Nat
  | 0 => 0
  | n + 1 => S f n + f (n + 1)
/-- the product over 1 .. n -/
def D (f : Nat → Int) : Nat → Int
  | 0 => 1
  | n + 1 => D f n * f (n + 1)
theorem S_congr {f g : Nat → Nat} : ∀ {n : Nat}, (∀ k, 1 ≤ k → k ≤ n → f k = g k) → S f n = S g n
  | 0, _ => rfl
  | n + 1, h => by
    rw [S, S, S_congr fun k a b => h k a (by omega), h (n + 1) (by omega) (by omega)]
theorem S_add (f g : Nat → Nat) : ∀ n, S (fun k => f k + g k) n = S f n + S g n
  | 0 => rfl
  | n + 1 => by rw [S, S, S, S_add f g n]; omega
theorem S_mul (c : Nat) (f : Nat → Nat) : ∀ n, S (fun k => c * f k) n = c * S f n
  | 0 => rfl
  | n + 1 => by rw [S, S, S_mul c f n, Nat.mul_add]
theorem S_const (c : Nat) : ∀ n, S (fun _ => c) n = n * c
  | 0 => by simp [S]
  | n + 1 => by rw [S, S_const c n, Nat.succ_mul]
/-- sums taken the other way round -/
theorem S_swap (f : Nat → Nat → Nat) : ∀ m n, S (fun i => S (fun j => f i j) n) m = S (fun j => S (fun i => f i j) m) n
  | 0, n => by
    have : S (fun j => S (fun i => f i j) 0) n = n * 0 := S_const 0 n
    rw [this]; rfl
  | m + 1, n => by
    rw [S, S_swap f m n, ← S_add]
    rfl
theorem S_list (f : Nat → Nat) : ∀ n, S f n = ((List.range' 1 n).map f).sum
  | 0 => rfl
  | n + 1 => by
    rw [S, S_list f n, List.range'_concat, List.map_append, List.sum_append]
    simp [Nat.add_comm]
def F (f : Nat → Nat) (n : Nat) : Nat := ((List.range' 1 n).map f).prod
theorem F_succ (f : Nat → Nat) (n : Nat) : F f (n + 1) = F f n * f (n + 1) := by
  unfold F
  rw [List.range'_concat, List.map_append, List.prod_append_nat]
  simp [Nat.add_comm]
/-- one number of 1 .. h for each: their order alone is another -/
theorem perm_of {r : Nat → Nat} {h : Nat} (h1 : ∀ k, 1 ≤ k → k ≤ h → 1 ≤ r k ∧ r k ≤ h) (h2 : ∀ k l, 1 ≤ k → k < l → l ≤ h → r k ≠ r l) :
    ((List.range' 1 h).map r).Perm (List.range' 1 h) := by
  have nd : ((List.range' 1 h).map r).Nodup := by
    rw [List.Nodup, List.pairwise_map]
    refine List.Pairwise.imp_of_mem ?_ (List.pairwise_lt_range' (s := 1) (n := h) (step := 1) (by decide))
    intro a b ha hb hab
    rw [List.mem_range'_1] at ha hb
    exact h2 a b (by omega) hab (by omega)
  have sub : (List.range' 1 h).map r ⊆ List.range' 1 h := by
    intro x hx
    obtain ⟨k, hk, rfl⟩ := List.mem_map.mp hx
    rw [List.mem_range'_1] at hk ⊢
    have := h1 k (by omega) (by omega)
    omega
  refine (List.perm_ext_iff_of_nodup nd List.nodup_range').mpr fun a => ⟨fun m => sub m, fun m => ?_⟩
  apply Classical.byContradiction
  intro ha
  have c : (a :: (List.range' 1 h).map r).Nodup := List.nodup_cons.mpr ⟨ha, nd⟩
  have l := c.length_le_of_subset (l₂ := List.range' 1 h) (by
    intro x hx
    rcases List.mem_cons.mp hx with e | e
    · rw [e]; exact m
    · exact sub e)
  simp at l
  omega
theorem S_perm {r : Nat → Nat} {h : Nat} (h1 : ∀ k, 1 ≤ k → k ≤ h → 1 ≤ r k ∧ r k ≤ h) (h2 : ∀ k l, 1 ≤ k → k < l → l ≤ h → r k ≠ r l) :
    S r h = S (fun k => k) h := by
  rw [S_list, S_list, (perm_of h1 h2).sum_nat]
  simp
theorem F_perm {r : Nat → Nat} {h : Nat} (h1 : ∀ k, 1 ≤ k → k ≤ h → 1 ≤ r k ∧ r k ≤ h) (h2 : ∀ k l, 1 ≤ k → k < l → l ≤ h → r k ≠ r l) :
    F r h = F (fun k => k) h := by
  unfold F
  rw [(perm_of h1 h2).prod_nat]
  simp
/-- alike by p -/
def M (p : Nat) (x y : Int) : Prop := (p : Int) ∣ x - y
theorem M.refl (p : Nat) (x : Int) : M p x x := ⟨0, by omega⟩
theorem M.symm {p : Nat} {x y : Int} (h : M p x y) : M p y x := by
  obtain ⟨k, hk⟩ := h
  exact ⟨-k, by grind⟩
theorem M.trans {p : Nat} {x y z : Int} (h : M p x y) (g : M p y z) : M p x z := by
  obtain ⟨k, hk⟩ := h
  obtain ⟨l, hl⟩ := g
  exact ⟨k + l, by grind⟩
theorem M.mul {p : Nat} {x y u v : Int} (h : M p x y) (g : M p u v) : M p (x * u) (y * v) := by
  obtain ⟨k, hk⟩ := h
  obtain ⟨l, hl⟩ := g
  exact ⟨k * u + y * l, by grind⟩
theorem M.pow {p : Nat} {x y : Int} (h : M p x y) : ∀ n : Nat, M p (x ^ n) (y ^ n)
  | 0 => by simp only [Int.pow_zero]; exact M.refl p 1
  | n + 1 => by rw [Int.pow_succ, Int.pow_succ]; exact (M.pow h n).mul h
theorem M_mod (p a : Nat) : M p (a : Int) ((a % p : Nat) : Int) := by
  refine ⟨((a / p : Nat) : Int), ?_⟩
  have := Nat.div_add_mod a p
  have e : (a : Int) = (p : Int) * ((a / p : Nat) : Int) + ((a % p : Nat) : Int) := by
    rw [← Int.natCast_mul, ← Int.natCast_add, this]
  omega
theorem M_nat {p a b : Nat} : M p (a : Int) (b : Int) ↔ a % p = b % p := by
  constructor
  · intro h
    have := Int.emod_emod_of_dvd (a : Int) (Int.dvd_refl (p : Int))
    have e := Int.emod_eq_emod_iff_emod_sub_eq_zero.mpr (Int.emod_eq_zero_of_dvd h)
    omega
  · intro h
    have h1 := M_mod p a
    have h2 := M_mod p b
    rw [h] at h1
    exact h1.trans h2.symm
theorem D_mod {p : Nat} {f g : Nat → Int} : ∀ {n : Nat}, (∀ k, 1 ≤ k → k ≤ n → M p (f k) (g k)) → M p (D f n) (D g n)
  | 0, _ => M.refl p 1
  | n + 1, h => (D_mod fun k a b => h k a (by omega)).mul (h (n + 1) (by omega) (by omega))
theorem D_mul (f g : Nat → Int) : ∀ n, D (fun k => f k * g k) n = D f n * D g n
  | 0 => rfl
  | n + 1 => by rw [D, D, D, D_mul f g n]; grind
theorem D_const (c : Int) : ∀ n, D (fun _ => c) n = c ^ n
  | 0 => by simp [D]
  | n + 1 => by rw [D, D_const c n, Int.pow_succ]
theorem D_cast (f : Nat → Nat) : ∀ n, D (fun k => (f k : Int)) n = ((F f n : Nat) : Int)
  | 0 => rfl
  | n + 1 => by rw [D, D_cast f n, F_succ, Int.natCast_mul]
/-- 1 or -1 by evenness -/
def sg (n : Nat) : Int := if n % 2 = 0 then 1 else -1
theorem sg_add (a b : Nat) : sg (a + b) = sg a * sg b := by
  unfold sg
  rcases Nat.mod_two_eq_zero_or_one a with ha | ha <;> rcases Nat.mod_two_eq_zero_or_one b with hb | hb
  · rw [if_pos (by omega), if_pos ha, if_pos hb]; rfl
  · rw [if_neg (by omega), if_pos ha, if_neg (by omega)]; rfl
  · rw [if_neg (by omega), if_neg (by omega), if_pos hb]; rfl
  · rw [if_pos (by omega), if_neg (by omega), if_neg (by omega)]; rfl
theorem sg_mod {a b : Nat} (h : a % 2 = b % 2) : sg a = sg b := by
  unfold sg
  rw [h]
theorem D_sg (f : Nat → Nat) : ∀ n, D (fun k => sg (f k)) n = sg (S f n)
  | 0 => rfl
  | n + 1 => by rw [D, D_sg f n, S, sg_add]
theorem F_id_coprime {p : Nat} (hp : Prime p) : ∀ n, n < p → ¬ p ∣ F (fun k => k) n
  | 0, h => by
    intro d
    have : F (fun k => k) 0 = 1 := rfl
    rw [this] at d
    have := hp.1
    have := Nat.le_of_dvd (by decide) d
    omega
  | n + 1, h => by
    intro d
    rw [F_succ] at d
    rcases hp.dvd_mul d with q | q
    · exact F_id_coprime hp n (by omega) q
    · have := Nat.le_of_dvd (by omega) q
      omega
theorem M_cancel {p : Nat} (hp : Prime p) {x y : Int} {c : Nat} (hc : ¬ p ∣ c) (h : M p (x * c) (y * c)) : M p x y := by
  unfold M at *
  rw [← Int.sub_mul] at h
  have h2 : p ∣ (x - y).natAbs * c := by
    have := Int.natAbs_dvd_natAbs.mpr h
    rw [Int.natAbs_mul] at this
    simpa using this
  rcases hp.dvd_mul h2 with q | q
  · exact Int.dvd_natAbs.mp (Int.natCast_dvd_natCast.mpr q)
  · exact absurd q hc
/-! Gauss's lemma -/
/-- the turned rest of a k: 0 if it's at most h, else 1 -/
def up (p a k : Nat) : Nat := if a * k % p ≤ (p - 1) / 2 then 0 else 1
def least (p a k : Nat) : Nat := if a * k % p ≤ (p - 1) / 2 then a * k % p else p - a * k % p
section
variable {p a : Nat}
theorem not_dvd (hp : Prime p) (ha : ¬ p ∣ a) {k : Nat} (k1 : 1 ≤ k) (k2 : k < p) : a * k % p ≠ 0 := by
  intro h
  rcases hp.dvd_mul (Nat.dvd_of_mod_eq_zero h) with q | q
  · exact ha q
  · have := Nat.le_of_dvd (by omega) q
    omega
theorem least_in (hp : Prime p) (ho : p % 2 = 1) (ha : ¬ p ∣ a) {k : Nat} (k1 : 1 ≤ k) (k2 : k ≤ (p - 1) / 2) : 1 ≤ least p a k ∧ least p a k ≤ (p - 1) / 2 := by
  have n := not_dvd hp ha k1 (by have := hp.1; omega)
  have l := Nat.mod_lt (a * k) (show 0 < p by have := hp.1; omega)
  unfold least
  split <;> omega
theorem least_mod (hp : Prime p) (k : Nat) : M p ((a : Int) * (k : Int)) (sg (up p a k) * (least p a k : Int)) := by
  have l := Nat.mod_lt (a * k) (show 0 < p by have := hp.1; omega)
  have m := M_mod p (a * k)
  rw [Int.natCast_mul] at m
  unfold up least
  split
  · show M p _ (1 * _)
    rw [Int.one_mul]
    exact m
  · show M p _ (-1 * _)
    obtain ⟨c, hc⟩ := m
    refine ⟨c + 1, ?_⟩
    rw [Int.ofNat_sub (by omega)]
    grind
theorem least_ne (hp : Prime p) (ho : p % 2 = 1) (ha : ¬ p ∣ a) {k l : Nat} (k1 : 1 ≤ k) (kl : k < l) (l1 : l ≤ (p - 1) / 2) : least p a k ≠ least p a l := by
  intro e
  have p0 := hp.1
  have hk := Nat.mod_lt (a * k) (show 0 < p by omega)
  have hl := Nat.mod_lt (a * l) (show 0 < p by omega)
  have dk := Nat.div_add_mod (a * k) p
  have dl := Nat.div_add_mod (a * l) p
  have ad : a * k + a * l = a * (k + l) := (Nat.mul_add a k l).symm
  have sb : a * l - a * k = a * (l - k) := (Nat.mul_sub a l k).symm
  have s : p ∣ a * (l - k) ∨ p ∣ a * (k + l) := by
    have same : a * k % p = a * l % p → p ∣ a * (l - k) := by
      intro q
      rw [← sb]
      exact Nat.dvd_of_mod_eq_zero (Nat.sub_mod_eq_zero_of_mod_eq q.symm)
    have opp : a * k % p + a * l % p = p → p ∣ a * (k + l) := by
      intro q
      rw [← ad]
      refine Nat.dvd_of_mod_eq_zero ?_
      rw [Nat.add_mod, q, Nat.mod_self]
    unfold least at e
    split at e <;> split at e
    · exact Or.inl (same e)
    · exact Or.inr (opp (by omega))
    · exact Or.inr (opp (by omega))
    · exact Or.inl (same (by omega))
  rcases s with s | s
  · rcases hp.dvd_mul s with q | q
    · exact ha q
    · have := Nat.le_of_dvd (by omega) q
      omega
  · rcases hp.dvd_mul s with q | q
    · exact ha q
    · have := Nat.le_of_dvd (by omega) q
      omega
/-- **Gauss**: a to the power (p - 1) / 2 is 1 or -1, by how many rests are turned. -/
theorem gauss (hp : Prime p) (ho : p % 2 = 1) (ha : ¬ p ∣ a) : M p ((a : Int) ^ ((p - 1) / 2)) (sg (S (up p a) ((p - 1) / 2))) := by
  refine M_cancel hp (F_id_coprime hp ((p - 1) / 2) (by have := hp.1; omega)) ?_
  rw [← D_const, ← D_cast, ← D_mul, ← D_sg]
  refine (D_mod fun k _ _ => least_mod hp k).trans ?_
  rw [D_mul, D_cast, F_perm (fun k a b => least_in hp ho ha a b) (fun k l a b c => least_ne hp ho ha a b c), D_cast (fun k => k)]
  exact M.refl _ _
/-- how many rests are turned, by evenness -/
theorem up_even (hp : Prime p) (ho : p % 2 = 1) (ha : ¬ p ∣ a) : S (up p a) ((p - 1) / 2) % 2 = (S (fun k => a * k / p) ((p - 1) / 2) + (a + 1) * S (fun k => k) ((p - 1) / 2)) % 2 := by
  have each : ∀ n, (S (up p a) n + S (fun k => a * k / p) n + S (least p a) n) % 2 = (a * S (fun k => k) n) % 2 := by
    intro n
    rw [← S_mul]
    induction n with
    | zero => rfl
    | succ n ih =>
      rw [S, S, S, S]
      have p0 := hp.1
      have l := Nat.mod_lt (a * (n + 1)) (show 0 < p by omega)
      have d := Nat.div_add_mod (a * (n + 1)) p
      have o : (p * (a * (n + 1) / p)) % 2 = (a * (n + 1) / p) % 2 := by
        rw [Nat.mul_mod, ho, Nat.one_mul, Nat.mod_mod]
      have q : (up p a (n + 1) + least p a (n + 1)) % 2 = (a * (n + 1) % p) % 2 := by
        unfold up least
        split <;> omega
      omega
  have e := each ((p - 1) / 2)
  rw [S_perm (fun k a b => least_in hp ho ha a b) (fun k l a b c => least_ne hp ho ha a b c)] at e
  rw [Nat.succ_mul]
  omega
end
end NT
/-! Euler's symbol, its law of exchange; products of such symbols. Core Lean alone. -/
namespace NT
theorem S_upto (t : Nat) : ∀ n, S (fun l => if l ≤ t then 1 else 0) n = min n t
  | 0 => by simp [S]
  | n + 1 => by
    rw [S, S_upto t n]
    split <;> omega
section
variable {p q : Nat}
theorem below_half (p0 : 0 < p) (q1 : q % 2 = 1) {k : Nat} (hk : k ≤ (p - 1) / 2) : q * k / p ≤ (q - 1) / 2 := by
  have d := Nat.div_mul_le_self (q * k) p
  generalize q * k / p = t at *
  apply Classical.byContradiction
  intro c
  have h1 : q + 1 ≤ 2 * t := by omega
  have h2 : 2 * k + 1 ≤ p := by omega
  have h3 : (q + 1) * p ≤ 2 * t * p := Nat.mul_le_mul_right p h1
  have h4 : q * (2 * k + 1) ≤ q * p := Nat.mul_le_mul_left q h2
  rw [Nat.succ_mul] at h3
  rw [Nat.mul_add, Nat.mul_one, Nat.mul_left_comm] at h4
  rw [Nat.mul_assoc] at h3
  omega
theorem floor_count (hp : Prime p) (hq : ¬ p ∣ q) (q1 : q % 2 = 1) {k : Nat} (k1 : 1 ≤ k) (hk : k ≤ (p - 1) / 2) :
    S (fun l => if p * l < q * k then 1 else 0) ((q - 1) / 2) = q * k / p := by
  have p0 := hp.1
  have e : S (fun l => if p * l < q * k then 1 else 0) ((q - 1) / 2) = S (fun l => if l ≤ q * k / p then 1 else 0) ((q - 1) / 2) := by
    refine S_congr fun l _ _ => ?_
    have i : l ≤ q * k / p ↔ l * p ≤ q * k := Nat.le_div_iff_mul_le (by omega)
    have n : p * l ≠ q * k := by
      intro c
      rcases hp.dvd_mul (show p ∣ q * k from ⟨l, c.symm⟩) with d | d
      · exact hq d
      · have := Nat.le_of_dvd (by omega) d
        omega
    rw [Nat.mul_comm l p] at i
    by_cases h : p * l < q * k
    · rw [if_pos h, if_pos (i.mpr (by omega))]
    · rw [if_neg h, if_neg (fun c => by have := i.mp c; omega)]
  rw [e, S_upto, Nat.min_eq_right (below_half (by omega) q1 hk)]
theorem lattice (hp : Prime p) (hq : Prime q) (p1 : p % 2 = 1) (q1 : q % 2 = 1) (ne : p ≠ q) :
    S (fun k => q * k / p) ((p - 1) / 2) + S (fun l => p * l / q) ((q - 1) / 2) = ((p - 1) / 2) * ((q - 1) / 2) := by
  have npq : ¬ p ∣ q := fun d => by
    have := hp.1
    rcases hq.2 p d with c | c <;> omega
  have nqp : ¬ q ∣ p := fun d => by
    have := hq.1
    rcases hp.2 q d with c | c <;> omega
  have e1 : S (fun k => q * k / p) ((p - 1) / 2) = S (fun k => S (fun l => if p * l < q * k then 1 else 0) ((q - 1) / 2)) ((p - 1) / 2) :=
    S_congr fun k a b => (floor_count hp npq q1 a b).symm
  have e2 : S (fun l => p * l / q) ((q - 1) / 2) = S (fun l => S (fun k => if q * k < p * l then 1 else 0) ((p - 1) / 2)) ((q - 1) / 2) :=
    S_congr fun k a b => (floor_count hq nqp p1 a b).symm
  rw [e1, e2, S_swap (fun l k => if q * k < p * l then 1 else 0), ← S_add]
  have e3 : S (fun k => S (fun l => if p * l < q * k then 1 else 0) ((q - 1) / 2) + S (fun l => if q * k < p * l then 1 else 0) ((q - 1) / 2)) ((p - 1) / 2) = S (fun _ => (q - 1) / 2) ((p - 1) / 2) := by
    refine S_congr fun k a b => ?_
    rw [← S_add]
    have e4 : S (fun l => (if p * l < q * k then 1 else 0) + (if q * k < p * l then 1 else 0)) ((q - 1) / 2) = S (fun _ => 1) ((q - 1) / 2) := by
      refine S_congr fun l c d => ?_
      have n : p * l ≠ q * k := by
        intro c
        have := hp.1
        rcases hp.dvd_mul (show p ∣ q * k from ⟨l, c.symm⟩) with d | d
        · exact npq d
        · have := Nat.le_of_dvd (by omega) d
          omega
      by_cases h : p * l < q * k
      · rw [if_pos h, if_neg (by omega)]
      · rw [if_neg h, if_pos (by omega)]
    rw [e4, S_const, Nat.mul_one]
  rw [e3, S_const]
end
/-- Euler's symbol -/
def chi (p a : Nat) : Int := if a % p = 0 then 0 else if a ^ ((p - 1) / 2) % p = 1 then 1 else -1
theorem chi_small (p a : Nat) : chi p a = 0 ∨ chi p a = 1 ∨ chi p a = -1 := by
  unfold chi
  split
  · exact Or.inl rfl
  · split
    · exact Or.inr (Or.inl rfl)
    · exact Or.inr (Or.inr rfl)
theorem M_small {p : Nat} (h : 3 ≤ p) {x y : Int} (hx : x = 0 ∨ x = 1 ∨ x = -1) (hy : y = 0 ∨ y = 1 ∨ y = -1) (m : M p x y) : x = y := by
  have l : (x - y).natAbs ≤ 2 := by rcases hx with e | e | e <;> rcases hy with f | f | f <;> subst e <;> subst f <;> decide
  have d := Int.natAbs_dvd_natAbs.mpr m
  have : p ∣ (x - y).natAbs := by simpa using d
  by_cases z : (x - y).natAbs = 0
  · omega
  · have := Nat.le_of_dvd (by omega) this
    omega
theorem sg_small (n : Nat) : sg n = 1 ∨ sg n = -1 := by
  unfold sg
  split
  · exact Or.inl rfl
  · exact Or.inr rfl
section
variable {p q a b : Nat}
theorem chi_gauss (hp : Prime p) (ho : p % 2 = 1) (ha : ¬ p ∣ a) : chi p a = sg (S (up p a) ((p - 1) / 2)) := by
  have p0 := hp.1
  have g := gauss hp ho ha
  have z : a % p ≠ 0 := fun h => ha (Nat.dvd_of_mod_eq_zero h)
  unfold chi
  rw [if_neg z]
  have c : ((a ^ ((p - 1) / 2) : Nat) : Int) = (a : Int) ^ ((p - 1) / 2) := Int.natCast_pow a _
  rw [← c] at g
  rcases sg_small (S (up p a) ((p - 1) / 2)) with e | e
  · rw [e] at g
    rw [e, if_pos]
    have := M_nat.mp (show M p ((a ^ ((p - 1) / 2) : Nat) : Int) ((1 : Nat) : Int) from g)
    rw [this, Nat.mod_eq_of_lt (by omega)]
  · rw [e] at g
    rw [e, if_neg]
    intro h
    have h2 : M p ((a ^ ((p - 1) / 2) : Nat) : Int) ((1 : Nat) : Int) := M_nat.mpr (by rw [h, Nat.mod_eq_of_lt (by omega)])
    have := M_small (by omega) (Or.inr (Or.inl rfl)) (Or.inr (Or.inr rfl)) (h2.symm.trans g)
    omega
theorem chi_mod (hp : Prime p) (ho : p % 2 = 1) (a : Nat) : M p ((a : Int) ^ ((p - 1) / 2)) (chi p a) := by
  have p0 := hp.1
  by_cases ha : p ∣ a
  · have z : a % p = 0 := Nat.mod_eq_zero_of_dvd ha
    unfold chi
    rw [if_pos z]
    have m : M p (a : Int) 0 := by
      have := M_mod p a
      rw [z] at this
      exact this
    have := m.pow ((p - 1) / 2)
    rw [Int.zero_pow (by omega)] at this
    exact this
  · rw [chi_gauss hp ho ha]
    exact gauss hp ho ha
theorem chi_mul (hp : Prime p) (ho : p % 2 = 1) : chi p (a * b) = chi p a * chi p b := by
  have p0 := hp.1
  refine M_small (p := p) (by omega) (chi_small p _) ?_ ?_
  · rcases chi_small p a with e | e | e <;> rcases chi_small p b with f | f | f <;> rw [e, f] <;> decide
  · refine (chi_mod hp ho (a * b)).symm.trans ?_
    rw [Int.natCast_mul, Int.mul_pow]
    exact (chi_mod hp ho a).mul (chi_mod hp ho b)
theorem chi_congr (h : a % p = b % p) : chi p a = chi p b := by
  unfold chi
  rw [h, Nat.pow_mod, h, ← Nat.pow_mod]
theorem chi_one (hp : Prime p) : chi p 1 = 1 := by
  have := hp.1
  unfold chi
  rw [if_neg (by rw [Nat.mod_eq_of_lt (by omega)]; omega), if_pos (by rw [Nat.one_pow, Nat.mod_eq_of_lt (by omega)])]
theorem chi_zero (h : p ∣ a) : chi p a = 0 := by
  unfold chi
  rw [if_pos (Nat.mod_eq_zero_of_dvd h)]
theorem chi_recip (hp : Prime p) (hq : Prime q) (p1 : p % 2 = 1) (q1 : q % 2 = 1) (ne : p ≠ q) : chi p q * chi q p = sg (((p - 1) / 2) * ((q - 1) / 2)) := by
  have npq : ¬ p ∣ q := fun d => by
    have := hp.1
    rcases hq.2 p d with c | c <;> omega
  have nqp : ¬ q ∣ p := fun d => by
    have := hq.1
    rcases hp.2 q d with c | c <;> omega
  rw [chi_gauss hp p1 npq, chi_gauss hq q1 nqp, ← sg_add, ← lattice hp hq p1 q1 ne]
  refine sg_mod ?_
  have h1 := up_even hp p1 npq
  have h2 := up_even hq q1 nqp
  have e1 : ((q + 1) * S (fun k => k) ((p - 1) / 2)) % 2 = 0 := by rw [Nat.mul_mod, show (q + 1) % 2 = 0 by omega, Nat.zero_mul]
  have e2 : ((p + 1) * S (fun k => k) ((q - 1) / 2)) % 2 = 0 := by rw [Nat.mul_mod, show (p + 1) % 2 = 0 by omega, Nat.zero_mul]
  omega
theorem S_id : ∀ n, 2 * S (fun k => k) n = n * (n + 1)
  | 0 => rfl
  | n + 1 => by
    rw [S, Nat.mul_add, S_id n]
    grind
def two (n : Nat) : Int := if n % 8 = 1 ∨ n % 8 = 7 then 1 else -1
theorem chi_two (hp : Prime p) (ho : p % 2 = 1) : chi p 2 = two p := by
  have p0 := hp.1
  have n2 : ¬ p ∣ 2 := fun d => by
    have := Nat.le_of_dvd (by decide) d
    omega
  rw [chi_gauss hp ho n2]
  have u := up_even hp ho n2
  have z : S (fun k => 2 * k / p) ((p - 1) / 2) = 0 := by
    have : S (fun k => 2 * k / p) ((p - 1) / 2) = S (fun _ => 0) ((p - 1) / 2) := S_congr fun k _ b => Nat.div_eq_of_lt (by omega)
    rw [this, S_const, Nat.mul_zero]
  rw [z] at u
  have t := S_id ((p - 1) / 2)
  unfold two
  have key : ∀ r t : Nat, p = 8 * t + r → r < 8 → S (fun k => k) ((p - 1) / 2) % 2 = if r = 1 ∨ r = 7 then 0 else 1 := by
    intro r c e l
    have hr : r = 1 ∨ r = 3 ∨ r = 5 ∨ r = 7 := by omega
    rcases hr with h | h | h | h
    · have e2 : (p - 1) / 2 = 4 * c := by omega
      rw [e2] at t ⊢
      have : S (fun k => k) (4 * c) = 2 * (c * (4 * c + 1)) := by grind
      rw [this, if_pos (Or.inl h)]; omega
    · have e2 : (p - 1) / 2 = 4 * c + 1 := by omega
      rw [e2] at t ⊢
      have : S (fun k => k) (4 * c + 1) = 2 * (4 * c * c + 3 * c) + 1 := by grind
      rw [this, if_neg (by omega)]; omega
    · have e2 : (p - 1) / 2 = 4 * c + 2 := by omega
      rw [e2] at t ⊢
      have : S (fun k => k) (4 * c + 2) = 2 * (4 * c * c + 5 * c + 1) + 1 := by grind
      rw [this, if_neg (by omega)]; omega
    · have e2 : (p - 1) / 2 = 4 * c + 3 := by omega
      rw [e2] at t ⊢
      have : S (fun k => k) (4 * c + 3) = 2 * ((4 * c + 3) * (c + 1)) := by grind
      rw [this, if_pos (Or.inr h)]; omega
  have k := key (p % 8) (p / 8) (by omega) (by omega)
  by_cases c : p % 8 = 1 ∨ p % 8 = 7
  · rw [if_pos c] at k ⊢
    unfold sg
    rw [if_pos (by omega)]
  · rw [if_neg c] at k ⊢
    unfold sg
    rw [if_neg (by omega)]
end
/-! products of symbols -/
def J : List Nat → Nat → Int
  | [], _ => 1
  | p :: ps, a => chi p a * J ps a
def Odds (ps : List Nat) : Prop := ∀ p ∈ ps, Prime p ∧ p % 2 = 1
theorem Odds.tail {p : Nat} {ps : List Nat} (h : Odds (p :: ps)) : Odds ps := fun x m => h x (List.mem_cons_of_mem p m)
theorem Odds.head {p : Nat} {ps : List Nat} (h : Odds (p :: ps)) : Prime p ∧ p % 2 = 1 := h p List.mem_cons_self
theorem Odds.prod : ∀ {ps : List Nat}, Odds ps → ps.prod % 2 = 1
  | [], _ => rfl
  | p :: ps, h => by rw [List.prod_cons, Nat.mul_mod, h.head.2, h.tail.prod]
theorem J_mul : ∀ {ps : List Nat} (_ : Odds ps) (a b : Nat), J ps (a * b) = J ps a * J ps b
  | [], _, _, _ => rfl
  | p :: ps, h, a, b => by
    rw [J, J, J, J_mul h.tail a b, chi_mul h.head.1 h.head.2]
    grind
theorem J_one : ∀ {ps : List Nat} (_ : Odds ps), J ps 1 = 1
  | [], _ => rfl
  | p :: ps, h => by rw [J, J_one h.tail, chi_one h.head.1]; rfl
theorem J_congr : ∀ {ps : List Nat} {n a b : Nat}, ps.prod ∣ n → a % n = b % n → J ps a = J ps b
  | [], _, _, _, _, _ => rfl
  | p :: ps, n, a, b, d, h => by
    rw [List.prod_cons] at d
    have d1 : p ∣ n := Nat.dvd_trans (Nat.dvd_mul_right p _) d
    have d2 : ps.prod ∣ n := Nat.dvd_trans (Nat.dvd_mul_left _ p) d
    rw [J, J, J_congr d2 h, chi_congr (p := p) (a := a) (b := b)]
    rw [← Nat.mod_mod_of_dvd a d1, h, Nat.mod_mod_of_dvd b d1]
theorem J_zero : ∀ {ps : List Nat} {p a : Nat}, p ∈ ps → p ∣ a → J ps a = 0
  | q :: ps, p, a, m, d => by
    rw [J]
    rcases List.mem_cons.mp m with e | e
    · rw [← e, chi_zero d, Int.zero_mul]
    · rw [J_zero e d, Int.mul_zero]
theorem two_mul {m n : Nat} (hm : m % 2 = 1) (hn : n % 2 = 1) : two (m * n) = two m * two n := by
  unfold two
  rw [Nat.mul_mod]
  have a : m % 8 = 1 ∨ m % 8 = 3 ∨ m % 8 = 5 ∨ m % 8 = 7 := by omega
  have b : n % 8 = 1 ∨ n % 8 = 3 ∨ n % 8 = 5 ∨ n % 8 = 7 := by omega
  rcases a with a | a | a | a <;> rcases b with b | b | b | b <;> rw [a, b] <;> decide
theorem J_two : ∀ {ps : List Nat}, Odds ps → J ps 2 = two ps.prod
  | [], _ => rfl
  | p :: ps, h => by rw [J, J_two h.tail, chi_two h.head.1 h.head.2, List.prod_cons, two_mul h.head.2 h.tail.prod]
theorem half_mul {m n : Nat} (hm : m % 2 = 1) (hn : n % 2 = 1) : ((m * n - 1) / 2) % 2 = ((m - 1) / 2 + (n - 1) / 2) % 2 := by
  obtain ⟨x, rfl⟩ : ∃ x, m = 2 * x + 1 := ⟨m / 2, by omega⟩
  obtain ⟨y, rfl⟩ : ∃ y, n = 2 * y + 1 := ⟨n / 2, by omega⟩
  have : (2 * x + 1) * (2 * y + 1) = 2 * (2 * (x * y) + x + y) + 1 := by grind
  rw [this]
  omega
theorem mul_mod_two {a b c : Nat} (h : a % 2 = b % 2) : (a * c) % 2 = (b * c) % 2 := by
  rw [Nat.mul_mod, h, ← Nat.mul_mod]
theorem chi_J {p : Nat} (hp : Prime p) (p1 : p % 2 = 1) : ∀ {qs : List Nat}, Odds qs → p ∉ qs → chi p qs.prod * J qs p = sg ((p - 1) / 2 * ((qs.prod - 1) / 2))
  | [], _, _ => by
    show chi p 1 * 1 = sg ((p - 1) / 2 * 0)
    rw [chi_one hp]; rfl
  | q :: qs, h, n => by
    have ih := chi_J hp p1 h.tail (fun m => n (List.mem_cons_of_mem q m))
    have r := chi_recip hp h.head.1 p1 h.head.2 (fun e => n (e ▸ List.mem_cons_self))
    rw [List.prod_cons, J, chi_mul hp p1]
    have e : chi p q * chi p qs.prod * (chi q p * J qs p) = (chi p q * chi q p) * (chi p qs.prod * J qs p) := by grind
    rw [e, ih, r, ← sg_add, ← Nat.mul_add]
    refine sg_mod ?_
    rw [Nat.mul_comm, Nat.mul_comm ((p - 1) / 2)]
    exact mul_mod_two (half_mul h.head.2 h.tail.prod).symm
theorem J_recip : ∀ {ps qs : List Nat}, Odds ps → Odds qs → (∀ p ∈ ps, p ∉ qs) → J ps qs.prod * J qs ps.prod = sg ((ps.prod - 1) / 2 * ((qs.prod - 1) / 2))
  | [], qs, _, h, _ => by
    show 1 * J qs 1 = sg (0 / 2 * _)
    rw [J_one h, Nat.zero_div, Nat.zero_mul]; rfl
  | p :: ps, qs, h, g, d => by
    have ih := J_recip h.tail g (fun x m => d x (List.mem_cons_of_mem p m))
    have r := chi_J h.head.1 h.head.2 g (d p List.mem_cons_self)
    rw [List.prod_cons, J, J_mul g]
    have e : chi p qs.prod * J ps qs.prod * (J qs p * J qs ps.prod) = (chi p qs.prod * J qs p) * (J ps qs.prod * J qs ps.prod) := by grind
    rw [e, ih, r, ← sg_add, ← Nat.add_mul]
    refine sg_mod ?_
    exact mul_mod_two (half_mul h.head.2 h.tail.prod).symm
/-! what a number is made of, once and only so -/
theorem dvd_prod : ∀ {ps : List Nat} {p : Nat}, p ∈ ps → p ∣ ps.prod
  | q :: ps, p, m => by
    rw [List.prod_cons]
    rcases List.mem_cons.mp m with e | e
    · rw [e]; exact Nat.dvd_mul_right q _
    · exact Nat.dvd_trans (dvd_prod e) (Nat.dvd_mul_left _ q)
theorem mem_of_dvd {p : Nat} (hp : Prime p) : ∀ {ps : List Nat}, (∀ q ∈ ps, Prime q) → p ∣ ps.prod → p ∈ ps
  | [], _, d => by
    have := hp.1
    have := Nat.le_of_dvd (by decide) d
    rw [List.prod_nil] at this
    omega
  | q :: ps, h, d => by
    rw [List.prod_cons] at d
    rcases hp.dvd_mul d with e | e
    · have := hp.1
      rcases (h q List.mem_cons_self).2 p e with c | c
      · omega
      · rw [c]; exact List.mem_cons_self
    · exact List.mem_cons_of_mem q (mem_of_dvd hp (fun x m => h x (List.mem_cons_of_mem q m)) e)
theorem unique : ∀ {ps qs : List Nat}, (∀ p ∈ ps, Prime p) → (∀ q ∈ qs, Prime q) → ps.prod = qs.prod → ps.Perm qs
  | [], qs, _, h, e => by
    cases qs with
    | nil => exact List.Perm.refl _
    | cons q qs =>
      rw [List.prod_nil, List.prod_cons] at e
      have := (h q List.mem_cons_self).1
      have := Nat.eq_one_of_mul_eq_one_right e.symm
      omega
  | p :: ps, qs, h, g, e => by
    have hp := h p List.mem_cons_self
    have m : p ∈ qs := mem_of_dvd hp g (e ▸ dvd_prod List.mem_cons_self)
    have pe := List.perm_cons_erase m
    have e2 : ps.prod = (qs.erase p).prod := by
      have := pe.prod_nat
      rw [← e, List.prod_cons, List.prod_cons] at this
      exact Nat.eq_of_mul_eq_mul_left (by have := hp.1; omega) this
    exact ((unique (fun x m => h x (List.mem_cons_of_mem p m)) (fun x m => g x (List.mem_of_mem_erase m)) e2).cons p).trans pe.symm
theorem J_perm {a : Nat} {ps qs : List Nat} (h : ps.Perm qs) : J ps a = J qs a := by
  induction h with
  | nil => rfl
  | cons x _ ih => rw [J, J, ih]
  | swap x y l => rw [J, J, J, J]; grind
  | trans _ _ h1 h2 => rw [h1, h2]
theorem exists_prime {n : Nat} (h : 2 ≤ n) : ∃ p, Prime p ∧ p ∣ n := by
  induction n using Nat.strongRecOn with
  | _ n ih =>
    by_cases c : Prime n
    · exact ⟨n, c, Nat.dvd_refl n⟩
    · have : ∃ d, d ∣ n ∧ d ≠ 1 ∧ d ≠ n := by
        apply Classical.byContradiction
        intro c2
        refine c ⟨h, fun d hd => ?_⟩
        apply Classical.byContradiction
        intro c3
        exact c2 ⟨d, hd, fun e => c3 (Or.inl e), fun e => c3 (Or.inr e)⟩
      obtain ⟨d, hd, d1, d2⟩ := this
      have l := Nat.le_of_dvd (by omega) hd
      have d0 : d ≠ 0 := fun e => by rw [e] at hd; have := Nat.eq_zero_of_zero_dvd hd; omega
      obtain ⟨p, hp, pd⟩ := ih d (by omega) (by omega)
      exact ⟨p, hp, Nat.dvd_trans pd hd⟩
theorem exists_fac {n : Nat} (h : 1 ≤ n) : ∃ ps : List Nat, (∀ p ∈ ps, Prime p) ∧ ps.prod = n := by
  induction n using Nat.strongRecOn with
  | _ n ih =>
    by_cases c : n = 1
    · exact ⟨[], fun _ m => (nomatch m), c.symm⟩
    · obtain ⟨p, hp, d⟩ := exists_prime (n := n) (by omega)
      obtain ⟨m, rfl⟩ := d
      have p2 := hp.1
      have m0 : 0 < m := by
        apply Nat.pos_of_ne_zero
        intro e
        rw [e] at h
        omega
      have : m < p * m := by
        have := Nat.mul_le_mul_right m p2
        omega
      obtain ⟨ps, h1, h2⟩ := ih m this m0
      refine ⟨p :: ps, fun q m => ?_, by rw [List.prod_cons, h2]⟩
      rcases List.mem_cons.mp m with e | e
      · exact e ▸ hp
      · exact h1 q e
/-- the symbol by a number: over its primes -/
noncomputable def jac (a n : Nat) : Int := if h : 1 ≤ n then J (Classical.choose (exists_fac h)) a else 0
theorem jac_eq {a n : Nat} {ps : List Nat} (h : ∀ p ∈ ps, Prime p) (e : ps.prod = n) (h1 : 1 ≤ n) : jac a n = J ps a := by
  unfold jac
  rw [dif_pos h1]
  have := Classical.choose_spec (exists_fac h1)
  exact J_perm (unique this.1 h (this.2.trans e.symm))
theorem odds_of {n : Nat} (h : n % 2 = 1) : ∃ ps, Odds ps ∧ ps.prod = n := by
  obtain ⟨ps, h1, h2⟩ := exists_fac (n := n) (by omega)
  refine ⟨ps, fun p m => ⟨h1 p m, ?_⟩, h2⟩
  have d := dvd_prod m
  rw [h2] at d
  obtain ⟨k, hk⟩ := d
  rw [hk, Nat.mul_mod] at h
  rcases Nat.mod_two_eq_zero_or_one p with c | c
  · rw [c, Nat.zero_mul] at h
    simp at h
  · exact c
section
variable {a b n m : Nat}
theorem jac_one (a : Nat) : jac a 1 = 1 := jac_eq (ps := []) (fun _ m => (nomatch m)) rfl (by omega)
theorem jac_odd (h : n % 2 = 1) : ∃ ps, Odds ps ∧ ps.prod = n ∧ ∀ a, jac a n = J ps a := by
  obtain ⟨ps, h1, h2⟩ := odds_of h
  exact ⟨ps, h1, h2, fun a => jac_eq (fun p m => (h1 p m).1) h2 (by omega)⟩
theorem jac_mod (h : n % 2 = 1) : jac (a % n) n = jac a n := by
  obtain ⟨ps, _, h2, h3⟩ := jac_odd h
  rw [h3, h3]
  exact J_congr (n := n) (h2 ▸ Nat.dvd_refl _) (Nat.mod_mod a n)
theorem jac_mul (h : n % 2 = 1) : jac (a * b) n = jac a n * jac b n := by
  obtain ⟨ps, h1, _, h3⟩ := jac_odd h
  rw [h3, h3, h3, J_mul h1]
theorem jac_two (h : n % 2 = 1) : jac 2 n = two n := by
  obtain ⟨ps, h1, h2, h3⟩ := jac_odd h
  rw [h3, J_two h1, h2]
theorem jac_1 (h : n % 2 = 1) : jac 1 n = 1 := by
  obtain ⟨ps, h1, _, h3⟩ := jac_odd h
  rw [h3, J_one h1]
theorem jac_common {p : Nat} (h : n % 2 = 1) (hp : Prime p) (d1 : p ∣ n) (d2 : p ∣ a) : jac a n = 0 := by
  obtain ⟨ps, h1, h2, h3⟩ := jac_odd h
  rw [h3]
  exact J_zero (mem_of_dvd hp (fun q m => (h1 q m).1) (h2 ▸ d1)) d2
theorem jac_zero (h : n % 2 = 1) (h1 : n ≠ 1) : jac 0 n = 0 := by
  obtain ⟨p, hp, d⟩ := exists_prime (n := n) (by omega)
  exact jac_common h hp d (Nat.dvd_zero p)
/-- **the law of exchange** -/
theorem jac_swap (ha : a % 2 = 1) (hn : n % 2 = 1) : jac a n = sg ((a - 1) / 2 * ((n - 1) / 2)) * jac n a := by
  by_cases c : ∃ p, Prime p ∧ p ∣ a ∧ p ∣ n
  · obtain ⟨p, hp, d1, d2⟩ := c
    rw [jac_common hn hp d2 d1, jac_common ha hp d1 d2, Int.mul_zero]
  · obtain ⟨ps, h1, h2, h3⟩ := jac_odd hn
    obtain ⟨qs, g1, g2, g3⟩ := jac_odd ha
    have r := J_recip (ps := qs) (qs := ps) g1 h1 (fun p m m2 => c ⟨p, (g1 p m).1, g2 ▸ dvd_prod m, h2 ▸ dvd_prod m2⟩)
    rw [g2, h2, ← g3, ← h3] at r
    rw [← r]
    have sq : jac n a * jac n a = 1 := by
      have s := sg_small ((a - 1) / 2 * ((n - 1) / 2))
      have t : ∀ x y : Int, x * y = 1 ∨ x * y = -1 → x * x = 1 := by
        intro x y e
        have : x ∣ 1 := by
          rcases e with e | e
          · exact ⟨y, e.symm⟩
          · exact ⟨-y, by rw [Int.mul_neg, e]; rfl⟩
        have := Int.natAbs_dvd_natAbs.mpr this
        have : x.natAbs = 1 := Nat.dvd_one.mp this
        have : x = 1 ∨ x = -1 := by omega
        rcases this with e | e <;> rw [e] <;> rfl
      exact t _ (jac a n) (by rw [r]; exact s)
    have e : jac n a * jac a n * jac n a = jac a n * (jac n a * jac n a) := by grind
    rw [e, sq, Int.mul_one]
theorem sg_quarter (ha : a % 2 = 1) (hn : n % 2 = 1) : sg ((a - 1) / 2 * ((n - 1) / 2)) = if a % 4 = 3 ∧ n % 4 = 3 then -1 else 1 := by
  unfold sg
  rw [Nat.mul_mod]
  have x : ((a - 1) / 2) % 2 = if a % 4 = 3 then 1 else 0 := by split <;> omega
  have y : ((n - 1) / 2) % 2 = if n % 4 = 3 then 1 else 0 := by split <;> omega
  rw [x, y]
  by_cases c : a % 4 = 3 <;> by_cases d : n % 4 = 3 <;> simp [c, d]
end
end NT
/-! The specification's primes: what they are. -/
namespace NT
open Rb12
/-! ### the least divisor -/
theorem prime_of_none {n d : Nat} (n2 : 2 ≤ n) (h : ∀ e, 2 ≤ e → e < d → ¬ e ∣ n) (l : n < d * d) : Prime n := by
  refine ⟨n2, fun e he => ?_⟩
  obtain ⟨k, hk⟩ := he
  by_cases e1 : e = 1
  · exact Or.inl e1
  by_cases k1 : k = 1
  · rw [k1] at hk; exact Or.inr (by omega)
  exfalso
  have e0 : e ≠ 0 := by intro c; rw [c, Nat.zero_mul] at hk; omega
  have k0 : k ≠ 0 := by intro c; rw [c, Nat.mul_zero] at hk; omega
  have he : d ≤ e := by
    apply Classical.byContradiction
    intro c
    exact h e (by omega) (by omega) ⟨k, hk⟩
  have hk2 : d ≤ k := by
    apply Classical.byContradiction
    intro c
    exact h k (by omega) (by omega) ⟨e, by rw [hk, Nat.mul_comm]⟩
  have := Nat.mul_le_mul he hk2
  omega
theorem prime_of_least {n d : Nat} (d2 : 2 ≤ d) (h : ∀ e, 2 ≤ e → e < d → ¬ e ∣ n) (hd : d ∣ n) : Prime d := by
  refine ⟨d2, fun e he => ?_⟩
  have d0 : 0 < d := by omega
  have l := Nat.le_of_dvd d0 he
  have e0 : 0 < e := Nat.pos_of_dvd_of_pos he d0
  apply Classical.byContradiction
  intro c
  exact h e (by omega) (by omega) (Nat.dvd_trans he hd)
theorem divisor_ok : ∀ (f n d : Nat), 2 ≤ n → 2 ≤ d → (d = 2 ∨ d % 2 = 1) → (∀ e, 2 ≤ e → e < d → ¬ e ∣ n) → n < (d + f) * (d + f) →
    Prime (divisor f n d) ∧ divisor f n d ∣ n ∧ ∀ e, 2 ≤ e → e ∣ n → divisor f n d ≤ e
  | 0, n, d, n2, d2, _, h, l => by
    have p := prime_of_none n2 h (by simpa using l)
    rw [divisor]
    refine ⟨p, Nat.dvd_refl n, fun e e2 he => ?_⟩
    rcases p.2 e he with c | c <;> omega
  | f + 1, n, d, n2, d2, o, h, l => by
    rw [divisor]
    by_cases c1 : n < d * d
    · rw [if_pos c1]
      have p := prime_of_none n2 h c1
      refine ⟨p, Nat.dvd_refl n, fun e e2 he => ?_⟩
      rcases p.2 e he with c | c <;> omega
    · rw [if_neg c1]
      by_cases c2 : n % d = 0
      · rw [if_pos c2]
        have hd := Nat.dvd_of_mod_eq_zero c2
        refine ⟨prime_of_least d2 h hd, hd, fun e e2 he => ?_⟩
        apply Classical.byContradiction
        intro c
        exact h e e2 (by omega) he
      · rw [if_neg c2]
        have nd : ¬ d ∣ n := fun c => c2 (Nat.mod_eq_zero_of_dvd c)
        have n2' : d ≠ 2 → ¬ 2 ∣ n := fun c => h 2 (by decide) (by omega)
        refine divisor_ok f n _ n2 (by split <;> omega) (by split <;> omega) ?_ ?_
        · intro e e2 el he
          by_cases c : e < d
          · exact h e e2 c he
          · by_cases ed : e = d
            · exact nd (ed ▸ he)
            · split at el
              · omega
              · have : e = d + 1 := by omega
                exact n2' (by assumption) (Nat.dvd_trans (Nat.dvd_of_mod_eq_zero (by omega)) he)
        · refine Nat.lt_of_lt_of_le l (Nat.mul_le_mul ?_ ?_) <;> split <;> omega
def LIM : Nat := 18446744073709551616
theorem least_ok {n : Nat} (n2 : 2 ≤ n) (l : n ≤ LIM) : Prime (leastPrime n) ∧ leastPrime n ∣ n ∧ ∀ e, 2 ≤ e → e ∣ n → leastPrime n ≤ e := by
  unfold leastPrime
  refine divisor_ok _ n 2 n2 (by decide) (Or.inl rfl) (fun e _ _ => by omega) ?_
  have : (2 + 2 ^ 32) * (2 + 2 ^ 32) = (18446744090889420804 : Nat) := by decide
  rw [this]
  unfold LIM at l
  omega
theorem prime_iff {n : Nat} (l : n ≤ LIM) : prime n = true ↔ Prime n := by
  unfold prime
  rw [Bool.and_eq_true, decide_eq_true_eq, beq_iff_eq]
  constructor
  · rintro ⟨a, b⟩
    exact b ▸ (least_ok a l).1
  · intro h
    refine ⟨h.1, ?_⟩
    have k := least_ok h.1 l
    have := k.1.1
    rcases h.2 _ k.2.1 with c | c <;> omega
/-! ### what's left when p is taken out -/
theorem often_ok {p : Nat} (hp : 2 ≤ p) : ∀ (f m k : Nat), 0 < m → m < 2 ^ f → (often p f m k).1 * p ^ (often p f m k).2 = m * p ^ k ∧ (often p f m k).1 % p ≠ 0 ∧ 0 < (often p f m k).1 ∧ k ≤ (often p f m k).2
  | 0, m, k, m0, l => by omega
  | f + 1, m, k, m0, l => by
    rw [often]
    by_cases c : m % p = 0
    · rw [if_pos c]
      have d := Nat.div_mul_cancel (Nat.dvd_of_mod_eq_zero c)
      have q0 : 0 < m / p := Nat.div_pos (Nat.le_of_dvd m0 (Nat.dvd_of_mod_eq_zero c)) (by omega)
      have q1 : m / p < 2 ^ f := by
        have : m / p ≤ m / 2 := Nat.div_le_div_left hp (by decide)
        rw [Nat.pow_succ] at l
        omega
      have ih := often_ok hp f (m / p) (k + 1) q0 q1
      refine ⟨?_, ih.2.1, ih.2.2.1, by omega⟩
      rw [ih.1, Nat.pow_succ, Nat.mul_comm (p ^ k) p, ← Nat.mul_assoc, d]
    · rw [if_neg c]
      exact ⟨rfl, c, m0, Nat.le_refl k⟩
/-- what often says even where its first number is used up -/
theorem often_prod {p : Nat} : ∀ (f m k : Nat), (often p f m k).1 * p ^ (often p f m k).2 = m * p ^ k
  | 0, m, k => rfl
  | f + 1, m, k => by
    rw [often]
    by_cases c : m % p = 0
    · rw [if_pos c]
      have d := Nat.div_mul_cancel (Nat.dvd_of_mod_eq_zero c)
      rw [often_prod f (m / p) (k + 1), Nat.pow_succ, Nat.mul_comm (p ^ k) p, ← Nat.mul_assoc, d]
    · rw [if_neg c]
theorem flat_ok : ∀ (f n : Nat), 1 ≤ n → n < 2 ^ f → n ≤ LIM → (∀ q ∈ (partsOn f n).flatMap (fun x => List.replicate x.2 x.1), Prime q) ∧ ((partsOn f n).flatMap (fun x => List.replicate x.2 x.1)).prod = n
  | 0, n, n1, l, _ => by omega
  | f + 1, n, n1, l, m => by
    rw [partsOn]
    by_cases c : n < 2
    · rw [if_pos c]
      exact ⟨fun _ m => (nomatch m), by simp; omega⟩
    · rw [if_neg c]
      dsimp only
      have k := least_ok (n := n) (by omega) m
      have l64 : n < 2 ^ 65 := by unfold LIM at m; have : (2 : Nat) ^ 65 = 36893488147419103232 := by decide
                                  omega
      have pr := often_prod (p := leastPrime n) 64 n 0
      generalize hp : leastPrime n = p at *
      have p2 := k.1.1
      obtain ⟨y, hy⟩ := k.2.1
      have o0 : 0 < (often p 64 n 0).1 := by
        apply Nat.pos_of_ne_zero
        intro z
        rw [z] at pr
        simp at pr
        omega
      have e1 : 1 ≤ (often p 64 n 0).2 := by
        have : often p 64 n 0 = often p 63 (n / p) 1 := by
          rw [often, if_pos (Nat.mod_eq_zero_of_dvd k.2.1)]
        rw [this]
        have mono : ∀ f m k, k ≤ (often p f m k).2 := by
          intro f
          induction f with
          | zero => intro m k; exact Nat.le_refl k
          | succ f ih =>
            intro m k
            rw [often]
            split
            · have := ih (m / p) (k + 1); omega
            · exact Nat.le_refl k
        exact mono 63 _ 1
      have small : (often p 64 n 0).1 < 2 ^ f := by
        have h1 : 2 ^ 1 ≤ p ^ (often p 64 n 0).2 := by
          refine Nat.le_trans ?_ (Nat.pow_le_pow_right (by omega) e1)
          rw [Nat.pow_one, Nat.pow_one]
          exact p2
        have h2 := Nat.mul_le_mul_left (often p 64 n 0).1 h1
        rw [pr] at h2
        rw [Nat.pow_succ] at l
        simp at h2
        omega
      have small2 : (often p 64 n 0).1 ≤ LIM := by
        have : (often p 64 n 0).1 ∣ n := ⟨p ^ (often p 64 n 0).2, by rw [pr]; simp⟩
        have := Nat.le_of_dvd (by omega) this
        omega
      have ih := flat_ok f _ o0 small small2
      refine ⟨fun q hq => ?_, ?_⟩
      · rw [List.flatMap_cons] at hq
        rcases List.mem_append.mp hq with e | e
        · rw [(List.mem_replicate.mp e).2]
          exact k.1
        · exact ih.1 q e
      · rw [List.flatMap_cons, List.prod_append_nat, ih.2, List.prod_replicate_nat, Nat.mul_comm, pr]
        simp
/-! ### tests by powers -/
theorem power_nat {a e n : Nat} (he : e < 2 ^ 65) : power a e n = a ^ e % n := Pw.power_eq he
theorem fermat {p a : Nat} (hp : Prime p) (ho : p % 2 = 1) (ha : ¬ p ∣ a) : a ^ (p - 1) % p = 1 := by
  have p0 := hp.1
  have g := gauss hp ho ha
  have g2 := g.mul g
  have e1 : (a : Int) ^ ((p - 1) / 2) * (a : Int) ^ ((p - 1) / 2) = ((a ^ (p - 1) : Nat) : Int) := by
    rw [← Int.pow_add, Int.natCast_pow]
    congr 1
    omega
  have e2 : sg (S (up p a) ((p - 1) / 2)) * sg (S (up p a) ((p - 1) / 2)) = ((1 : Nat) : Int) := by
    rcases sg_small (S (up p a) ((p - 1) / 2)) with e | e <;> rw [e] <;> rfl
  rw [e1, e2] at g2
  have := M_nat.mp g2
  rw [this, Nat.mod_eq_of_lt (by omega)]
/-- by a prime only 1 and p - 1 have the square 1 -/
theorem root_one {p x : Nat} (hp : Prime p) (hx : x < p) (h : x * x % p = 1) : x = 1 ∨ x = p - 1 := by
  have p0 := hp.1
  have x0 : x ≠ 0 := by intro e; rw [e] at h; simp at h
  have d : p ∣ (x - 1) * (x + 1) := by
    have e : (x - 1) * (x + 1) = x * x - 1 := by
      obtain ⟨y, rfl⟩ : ∃ y, x = y + 1 := ⟨x - 1, by omega⟩
      have : (y + 1) * (y + 1) = y * (y + 2) + 1 := by grind
      rw [this]
      simp
    rw [e]
    refine Nat.dvd_of_mod_eq_zero (Nat.sub_mod_eq_zero_of_mod_eq ?_)
    rw [h, Nat.mod_eq_of_lt (by omega)]
  rcases hp.dvd_mul d with q | q
  · by_cases c : x = 1
    · exact Or.inl c
    · have := Nat.le_of_dvd (by omega) q
      omega
  · have := Nat.le_of_dvd (by omega) q
    omega
def stepB (n : Nat) (z : Bool × Nat) (_ : Nat) : Bool × Nat := (z.1 || z.2 == n - 1, z.2 * z.2 % n)
theorem stepB_true (n : Nat) : ∀ (l : List Nat) (y : Nat), (l.foldl (stepB n) (true, y)).1 = true
  | [], _ => rfl
  | _ :: l, y => by
    rw [List.foldl_cons]
    show (l.foldl (stepB n) (true || y == n - 1, y * y % n)).1 = true
    rw [Bool.true_or]
    exact stepB_true n l _
theorem stepB_prime {n : Nat} (hn : Prime n) : ∀ (l : List Nat) (y : Nat), y < n → y ≠ 1 → y ^ 2 ^ l.length % n = 1 → (l.foldl (stepB n) (false, y)).1 = true
  | [], y, hy, y1, h => by
    simp at h
    rw [Nat.mod_eq_of_lt hy] at h
    exact absurd h y1
  | x :: l, y, hy, y1, h => by
    rw [List.foldl_cons]
    show (l.foldl (stepB n) (false || y == n - 1, y * y % n)).1 = true
    by_cases c : y = n - 1
    · rw [beq_iff_eq.mpr c, Bool.false_or]
      exact stepB_true n l _
    · have b : (y == n - 1) = false := by simpa using c
      rw [b, Bool.false_or]
      refine stepB_prime hn l _ (Nat.mod_lt _ (by omega)) ?_ ?_
      · intro e
        rcases root_one hn hy e with q | q
        · exact y1 q
        · exact c q
      · rw [← Nat.pow_mod]
        rw [List.length_cons, Nat.pow_succ, Nat.mul_comm, Nat.pow_mul, Nat.pow_two] at h
        exact h
theorem strong_prime {n a : Nat} (hn : Prime n) (ho : n % 2 = 1) (l : n ≤ LIM) (ha : ¬ n ∣ a) : strong n a = true := by
  have n0 := hn.1
  unfold strong
  dsimp only
  have pr := often_prod (p := 2) 64 (n - 1) 0
  rw [Nat.pow_zero, Nat.mul_one] at pr
  have lim : (often 2 64 (n - 1) 0).1 < 2 ^ 65 := by
    have : (often 2 64 (n - 1) 0).1 ∣ n - 1 := ⟨_, pr.symm⟩
    have := Nat.le_of_dvd (by omega) this
    unfold LIM at l
    have : (2 : Nat) ^ 65 = 36893488147419103232 := by decide
    omega
  rw [power_nat lim]
  by_cases c : a ^ (often 2 64 (n - 1) 0).1 % n = 1
  · rw [c]; rfl
  · have b : (a ^ (often 2 64 (n - 1) 0).1 % n == 1) = false := by simpa using c
    rw [b, Bool.false_or]
    refine stepB_prime hn _ _ (Nat.mod_lt _ (by omega)) c ?_
    rw [List.length_range, ← Nat.pow_mod, ← Nat.pow_mul, pr]
    exact fermat hn ho ha
/-! ### Lucas -/
theorem pow_one_gcd {a n : Nat} (n1 : 1 < n) : ∀ x y : Nat, a ^ x % n = 1 → a ^ y % n = 1 → a ^ Nat.gcd x y % n = 1 := by
  intro x y
  refine Nat.gcd.induction (P := fun x y => a ^ x % n = 1 → a ^ y % n = 1 → a ^ Nat.gcd x y % n = 1) x y ?_ ?_
  · intro y _ h
    rw [Nat.gcd_zero_left]
    exact h
  · intro x y _ ih hx hy
    rw [Nat.gcd_rec]
    refine ih ?_ hx
    have e := Nat.div_add_mod y x
    rw [← e, Nat.pow_add, Nat.pow_mul, Nat.mul_mod, Nat.pow_mod, hx, Nat.one_pow, Nat.mod_eq_of_lt n1, Nat.one_mul, Nat.mod_mod] at hy
    exact hy
theorem coprime_of_pow {a e n : Nat} (n1 : 1 < n) (e0 : 0 < e) (h : a ^ e % n = 1) : Nat.Coprime a n := by
  have g1 := Nat.gcd_dvd_left a n
  have g2 := Nat.gcd_dvd_right a n
  generalize hg : Nat.gcd a n = g at *
  have g3 : g ∣ a ^ e := by
    obtain ⟨k, rfl⟩ : ∃ k, e = k + 1 := ⟨e - 1, by omega⟩
    rw [Nat.pow_succ]
    exact Nat.dvd_trans g1 (Nat.dvd_mul_left a _)
  have g4 : g ∣ 1 := by
    rw [← h]
    exact (Nat.dvd_mod_iff g2).mpr g3
  exact hg.trans (Nat.dvd_one.mp g4)
theorem lucas {n a : Nat} (n2 : 2 ≤ n) (h1 : a ^ (n - 1) % n = 1) (h2 : ∀ q, Prime q → q ∣ n - 1 → a ^ ((n - 1) / q) % n ≠ 1) : Prime n := by
  by_cases n3 : n = 2
  · rw [n3]
    refine ⟨by decide, fun d hd => ?_⟩
    have := Nat.le_of_dvd (by decide) hd
    have : d ≠ 0 := by intro e; rw [e] at hd; omega
    omega
  have co := coprime_of_pow (by omega) (show 0 < n - 1 by omega) h1
  have ord : ∀ e, 0 < e → e < n - 1 → a ^ e % n ≠ 1 := by
    intro e e0 el h
    have g := pow_one_gcd (by omega) e (n - 1) h h1
    have gd := Nat.gcd_dvd_right e (n - 1)
    have gl : Nat.gcd e (n - 1) ≤ e := Nat.le_of_dvd e0 (Nat.gcd_dvd_left e (n - 1))
    generalize Nat.gcd e (n - 1) = d at *
    obtain ⟨k, hk⟩ := gd
    have k2 : 2 ≤ k := by
      apply Classical.byContradiction
      intro c
      have : k = 0 ∨ k = 1 := by omega
      rcases this with c | c <;> rw [c] at hk <;> omega
    obtain ⟨q, hq, kq⟩ := exists_prime k2
    obtain ⟨j, rfl⟩ := kq
    have q0 := hq.1
    refine h2 q hq ⟨d * j, by rw [hk]; grind⟩ ?_
    have : (n - 1) / q = d * j := by
      rw [hk]
      have : d * (q * j) = q * (d * j) := by grind
      rw [this]
      exact Nat.mul_div_cancel_left _ (by omega)
    rw [this, Nat.pow_mul, Nat.pow_mod, g, Nat.one_pow, Nat.mod_eq_of_lt (by omega)]
  have inj : ∀ k l, 1 ≤ k → k < l → l ≤ n - 1 → a ^ k % n ≠ a ^ l % n := by
    intro k l k1 kl ll e
    have d : n ∣ a ^ l - a ^ k := Nat.dvd_of_mod_eq_zero (Nat.sub_mod_eq_zero_of_mod_eq e.symm)
    have e2 : a ^ l - a ^ k = a ^ k * (a ^ (l - k) - 1) := by
      rw [Nat.mul_sub, Nat.mul_one, ← Nat.pow_add, show k + (l - k) = l by omega]
    rw [e2] at d
    have c2 : Nat.Coprime n (a ^ k) := (Nat.Coprime.pow_left k co).symm
    have d2 := c2.dvd_of_dvd_mul_left d
    have a0 : 0 < a := by
      apply Nat.pos_of_ne_zero
      intro z
      rw [z, Nat.zero_pow (by omega)] at h1
      simp at h1
    have a1 : 1 ≤ a ^ (l - k) := Nat.pow_pos a0
    refine ord (l - k) (by omega) (by omega) ?_
    obtain ⟨c, hc⟩ := d2
    have : a ^ (l - k) = 1 + n * c := by omega
    rw [this, Nat.add_mul_mod_self_left, Nat.mod_eq_of_lt (by omega)]
  have rng : ∀ k, 1 ≤ k → k ≤ n - 1 → 1 ≤ a ^ k % n ∧ a ^ k % n ≤ n - 1 := by
    intro k k1 _
    have l := Nat.mod_lt (a ^ k) (show 0 < n by omega)
    have : a ^ k % n ≠ 0 := by
      intro z
      have d := Nat.dvd_of_mod_eq_zero z
      have c2 : Nat.Coprime n (a ^ k) := (Nat.Coprime.pow_left k co).symm
      have := Nat.Coprime.eq_one_of_dvd c2 d
      omega
    omega
  have pm := perm_of rng inj
  refine ⟨n2, fun d hd => ?_⟩
  apply Classical.byContradiction
  intro c
  have dl := Nat.le_of_dvd (by omega) hd
  have d0 : d ≠ 0 := by intro e; rw [e] at hd; have := Nat.eq_zero_of_zero_dvd hd; omega
  have m : d ∈ List.range' 1 (n - 1) := by rw [List.mem_range'_1]; omega
  obtain ⟨k, hk, ek⟩ := List.mem_map.mp (pm.mem_iff.mpr m)
  have c2 : Nat.Coprime (a ^ k) n := Nat.Coprime.pow_left k co
  have d1 : d ∣ a ^ k := by
    have : d ∣ a ^ k % n := by rw [ek]; exact Nat.dvd_refl d
    exact (Nat.dvd_mod_iff hd).mp this
  have : d ∣ Nat.gcd (a ^ k) n := Nat.dvd_gcd d1 hd
  rw [c2] at this
  have := Nat.dvd_one.mp this
  omega
theorem sure_ok {n : Nat} {qs : List Nat} (n2 : 2 ≤ n) (ho : n % 2 = 1) (l : n ≤ LIM) (hq : ∀ q, Prime q → q ∣ n - 1 → q ∈ qs) :
    ∀ (f a : Nat) (b : Bool), sure n qs f a = some b → (b = true ↔ Prime n)
  | 0, _, _, h => by cases h
  | f + 1, a, b, h => by
    rw [sure] at h
    by_cases c1 : a % n = 0
    · rw [if_pos c1] at h
      exact sure_ok n2 ho l hq f (a + 1) b h
    · rw [if_neg c1] at h
      by_cases c2 : strong n a = false
      · rw [if_pos c2] at h
        have : b = false := by simpa using h.symm
        rw [this]
        refine ⟨fun e => (nomatch e), fun hp => ?_⟩
        rw [strong_prime hp ho l (fun d => c1 (Nat.mod_eq_zero_of_dvd d))] at c2
        cases c2
      · rw [if_neg c2] at h
        by_cases c3 : whole n qs a = true
        · rw [if_pos c3] at h
          have : b = true := by simpa using h.symm
          rw [this]
          refine ⟨fun _ => ?_, fun _ => rfl⟩
          unfold whole at c3
          rw [Bool.and_eq_true, beq_iff_eq, List.all_eq_true] at c3
          have lim : n - 1 < 2 ^ 65 := by
            unfold LIM at l
            have : (2 : Nat) ^ 65 = 36893488147419103232 := by decide
            omega
          rw [power_nat lim] at c3
          refine lucas n2 c3.1 fun q pq dq => ?_
          have := c3.2 q (hq q pq dq)
          rw [power_nat (Nat.lt_of_le_of_lt (Nat.div_le_self _ _) lim)] at this
          simpa using this
        · rw [if_neg c3] at h
          exact sure_ok n2 ho l hq f (a + 1) b h
theorem pick {n g r : Nat} (hg : g ∣ n) (hr : r = 0 ∨ (r ∣ n ∧ r ≠ 1 ∧ r ≠ n)) :
    (if g = 1 then r else if g = n then 0 else g) = 0 ∨ ((if g = 1 then r else if g = n then 0 else g) ∣ n ∧ (if g = 1 then r else if g = n then 0 else g) ≠ 1 ∧ (if g = 1 then r else if g = n then 0 else g) ≠ n) := by
  by_cases c : g = 1
  · rw [if_pos c]; exact hr
  · rw [if_neg c]
    by_cases d : g = n
    · rw [if_pos d]; exact Or.inl rfl
    · rw [if_neg d]; exact Or.inr ⟨hg, c, d⟩
theorem runners_ok {n c : Nat} : ∀ (f x y : Nat), runners n c f x y = 0 ∨ (runners n c f x y ∣ n ∧ runners n c f x y ≠ 1 ∧ runners n c f x y ≠ n)
  | 0, _, _ => Or.inl rfl
  | f + 1, x, y => by
    rw [runners]
    exact pick (Nat.gcd_dvd_right _ _) (runners_ok f _ _)
theorem split_ok {n : Nat} (n2 : 2 ≤ n) (l : n ≤ LIM) (hn : ¬ Prime n) : split n ∣ n ∧ split n ≠ 1 ∧ split n ≠ n := by
  unfold split
  split
  · rename_i d h
    obtain ⟨i, _, hi⟩ := List.exists_of_findSome?_eq_some h
    have r := runners_ok (n := n) (c := i + 1) 2000000 2 2
    generalize runners n (i + 1) 2000000 2 2 = g at *
    by_cases z : g = 0
    · rw [if_pos z] at hi; cases hi
    · rw [if_neg z] at hi
      have e : g = d := by simpa using hi
      subst e
      rcases r with r | r
      · exact absurd r z
      · exact r
  · have k := least_ok n2 l
    have := k.1.1
    refine ⟨k.2.1, by omega, fun e => hn (e ▸ k.1)⟩
theorem mem_eraseDups {l : List Nat} {x : Nat} : x ∈ l.eraseDups ↔ x ∈ l := by
  generalize hn : l.length = n
  induction n using Nat.strongRecOn generalizing l with
  | _ n ih =>
    cases l with
    | nil => simp
    | cons a l =>
      rw [List.eraseDups_cons]
      have ll := List.length_filter_le (fun b => !b == a) l
      rw [List.length_cons] at hn
      have := ih _ (by omega) (l := l.filter fun b => !b == a) rfl
      rw [List.mem_cons, List.mem_cons, this, List.mem_filter]
      by_cases c : x = a
      · simp [c]
      · simp [c]
theorem small_mem {p : Nat} (hp : Prime p) (h : p < 41) : p ∈ SMALL := by
  have all : ∀ p : Nat, p < 41 → (2 ≤ p ∧ ((List.range 7).all fun d => decide (d < 2 ∨ p ≤ d ∨ p % d ≠ 0)) = true) → p ∈ SMALL := by decide
  refine all p h ⟨hp.1, List.all_eq_true.mpr fun d _ => decide_eq_true ?_⟩
  apply Classical.byContradiction
  intro c
  have z : p % d = 0 := by omega
  rcases hp.2 d (Nat.dvd_of_mod_eq_zero z) with c | c <;> omega
theorem primesOn_ok : ∀ (f n : Nat), 1 ≤ n → n < LIM → (∀ q ∈ primesOn f n, Prime q) ∧ (primesOn f n).prod = n
  | 0, n, n1, l => by
    rw [primesOn]
    unfold parts
    exact flat_ok 64 n n1 (by unfold LIM at l; exact l) (Nat.le_of_lt l)
  | f + 1, n, n1, l => by
    rw [primesOn]
    by_cases c : n < 2
    · rw [if_pos c]
      exact ⟨fun _ m => (nomatch m), by simp; omega⟩
    · rw [if_neg c]
      split
      · rename_i p hp
        have pd : p ∣ n := by
          have := List.find?_some hp
          exact Nat.dvd_of_mod_eq_zero (by simpa using this)
        have pm := List.mem_of_find?_eq_some hp
        have pp : Prime p := by
          have all : ∀ x ∈ SMALL, Prime x := by
            intro x hx
            refine (prime_iff (n := x) ?_).mp ?_
            · have : ∀ x ∈ SMALL, x ≤ LIM := by decide
              exact this x hx
            · have : ∀ x ∈ SMALL, x < 100 ∧ divisor 100 x 2 = x := by decide +kernel
              have t := this x hx
              have b : ∀ x ∈ SMALL, 2 ≤ x := by decide
              have k := divisor_ok 100 x 2 (b x hx) (by decide) (Or.inl rfl) (fun e _ _ => by omega) (by omega)
              rw [t.2] at k
              exact (prime_iff (by unfold LIM; omega)).mpr k.1
          exact all p pm
        have p2 := pp.1
        obtain ⟨m, rfl⟩ := pd
        rw [Nat.mul_div_cancel_left m (by omega)]
        have m0 : 1 ≤ m := by
          apply Nat.pos_of_ne_zero
          intro e
          rw [e] at c
          omega
        have ml : m ≤ p * m := Nat.le_mul_of_pos_left m (by omega)
        have ih := primesOn_ok f m m0 (by omega)
        refine ⟨fun q hq => ?_, by rw [List.prod_cons, ih.2]⟩
        rcases List.mem_cons.mp hq with e | e
        · exact e ▸ pp
        · exact ih.1 q e
      · rename_i hs
        have hs2 := List.find?_eq_none.mp hs
        have nos : ∀ p ∈ SMALL, ¬ p ∣ n := fun p m d => hs2 p m (by simpa using Nat.mod_eq_zero_of_dvd d)
        by_cases c2 : n < 1681
        · rw [if_pos c2]
          have pn : Prime n := by
            refine prime_of_none (d := 41) (by omega) (fun e e2 el d => ?_) (by omega)
            obtain ⟨p, hp, pd⟩ := exists_prime e2
            have := Nat.le_of_dvd (by omega) pd
            exact nos p (small_mem hp (by omega)) (Nat.dvd_trans pd d)
          exact ⟨fun q hq => by rw [List.mem_singleton.mp hq]; exact pn, by simp⟩
        · rw [if_neg c2]
          dsimp only
          have ho : n % 2 = 1 := by
            have := nos 2 (by decide)
            omega
          have two_ok : ¬ Prime n → (∀ q ∈ primesOn f (split n) ++ primesOn f (n / split n), Prime q) ∧ (primesOn f (split n) ++ primesOn f (n / split n)).prod = n := by
            intro hn
            have s := split_ok (by omega) (Nat.le_of_lt l) hn
            generalize split n = d at *
            obtain ⟨m, rfl⟩ := s.1
            have d0 : 0 < d := by
              apply Nat.pos_of_ne_zero
              intro e
              rw [e] at c
              omega
            rw [Nat.mul_div_cancel_left m d0]
            have m0 : 1 ≤ m := by
              apply Nat.pos_of_ne_zero
              intro e
              rw [e] at c
              omega
            have ml : m ≤ d * m := Nat.le_mul_of_pos_left m d0
            have dl : d ≤ d * m := Nat.le_mul_of_pos_right d m0
            have i1 := primesOn_ok f d d0 (by omega)
            have i2 := primesOn_ok f m m0 (by omega)
            refine ⟨fun q hq => ?_, by rw [List.prod_append_nat, i1.2, i2.2]⟩
            rcases List.mem_append.mp hq with e | e
            · exact i1.1 q e
            · exact i2.1 q e
          have one_ok : Prime n → (∀ q ∈ [n], Prime q) ∧ [n].prod = n := fun pn =>
            ⟨fun q hq => by rw [List.mem_singleton.mp hq]; exact pn, by simp⟩
          have big : ∀ a, a = 2 ∨ a = 3 → ¬ n ∣ a := by
            intro a ha d
            have := Nat.le_of_dvd (by omega) d
            omega
          by_cases c3 : strong n 2 = false ∨ strong n 3 = false
          · rw [if_pos c3]
            refine two_ok fun pn => ?_
            rcases c3 with e | e
            · rw [strong_prime pn ho (Nat.le_of_lt l) (big 2 (Or.inl rfl))] at e; cases e
            · rw [strong_prime pn ho (Nat.le_of_lt l) (big 3 (Or.inr rfl))] at e; cases e
          · rw [if_neg c3]
            have ih := primesOn_ok f (n - 1) (by omega) (by omega)
            have s := sure_ok (n := n) (qs := (primesOn f (n - 1)).eraseDups) (by omega) ho (Nat.le_of_lt l) (fun q hq d => mem_eraseDups.mpr (mem_of_dvd hq ih.1 (by rw [ih.2]; exact d))) 200 2
            split
            · rename_i e
              exact one_ok ((s true e).mp rfl)
            · rename_i e
              refine two_ok fun pn => ?_
              have := (s false e).mpr pn
              cases this
            · by_cases c4 : prime n = true
              · rw [if_pos c4]
                exact one_ok ((prime_iff (Nat.le_of_lt l)).mp c4)
              · rw [if_neg c4]
                exact two_ok fun pn => c4 ((prime_iff (Nat.le_of_lt l)).mpr pn)
theorem primeBy_iff {n : Nat} (l : n < LIM) : primeBy n = true ↔ Prime n := by
  unfold primeBy
  rw [beq_iff_eq]
  by_cases n0 : n = 0
  · subst n0
    constructor
    · intro h
      have : primesOn FUEL 0 = [] := by
        show primesOn (199 + 1) 0 = []
        rw [primesOn, if_pos (by decide)]
      rw [this] at h
      cases h
    · intro h
      have := h.1
      omega
  · have k := primesOn_ok FUEL n (by omega) l
    constructor
    · intro h
      exact k.1 n (by rw [h]; exact List.mem_singleton.mpr rfl)
    · intro h
      have : (primesOn FUEL n).Perm [n] := unique k.1 (fun q hq => by rw [List.mem_singleton.mp hq]; exact h) (by rw [k.2]; simp)
      exact List.perm_singleton.mp this
end NT
/-! The specification's symbol is the product of Euler's symbols. -/
namespace NT
open Rb12
def K (g : Nat → Int) : List Nat → Int
  | [] => 1
  | x :: l => g x * K g l
theorem K_perm {g : Nat → Int} {l k : List Nat} (h : l.Perm k) : K g l = K g k := by
  induction h with
  | nil => rfl
  | cons x _ ih => rw [K, K, ih]
  | swap x y l => rw [K, K, K, K]; grind
  | trans _ _ h1 h2 => rw [h1, h2]
theorem K_congr {g h : Nat → Int} : ∀ {l : List Nat}, (∀ x ∈ l, g x = h x) → K g l = K h l
  | [], _ => rfl
  | x :: l, e => by rw [K, K, e x List.mem_cons_self, K_congr fun y m => e y (List.mem_cons_of_mem x m)]
theorem fold_K (g : Nat × Nat → Int) (k : Nat → Nat) : ∀ (l : List Nat) (s : Int), (l.map fun p => (p, k p)).foldl (fun s x => s * g x) s = s * K (fun p => g (p, k p)) l
  | [], s => by rw [K, Int.mul_one]; rfl
  | x :: l, s => by rw [List.map_cons, List.foldl_cons, fold_K g k l, K, Int.mul_assoc]
theorem K_out (g : Nat → Int) (x : Nat) : ∀ l : List Nat, K g l = g x ^ (l.filter fun q => q == x).length * K g (l.filter fun b => !b == x)
  | [] => by simp [K]
  | y :: l => by
    rw [K, K_out g x l, List.filter_cons, List.filter_cons]
    by_cases c : y = x
    · subst c
      simp only [beq_self_eq_true, if_true, Bool.not_true, Bool.false_eq_true, if_false, List.length_cons]
      rw [Int.pow_succ]
      grind
    · have b : (y == x) = false := by simpa using c
      simp only [b, Bool.not_false, if_true, Bool.false_eq_true, if_false]
      rw [K]
      grind
theorem K_dups (g : Nat → Int) (l : List Nat) : K (fun p => g p ^ (l.filter fun q => q == p).length) l.eraseDups = K g l := by
  generalize hn : l.length = n
  induction n using Nat.strongRecOn generalizing l with
  | _ n ih =>
    cases l with
    | nil => rfl
    | cons x l =>
      rw [List.eraseDups_cons, K]
      have ll := List.length_filter_le (fun b => !b == x) l
      rw [List.length_cons] at hn
      have h := ih _ (by omega) (l.filter fun b => !b == x) rfl
      have e : K (fun p => g p ^ ((x :: l).filter fun q => q == p).length) (l.filter fun b => !b == x).eraseDups = K (fun p => g p ^ ((l.filter fun b => !b == x).filter fun q => q == p).length) (l.filter fun b => !b == x).eraseDups := by
        refine K_congr fun y m => ?_
        rw [mem_eraseDups, List.mem_filter] at m
        have c : ¬ y = x := by simpa using m.2
        rw [List.filter_cons, List.filter_filter]
        have b : (x == y) = false := by simpa using fun q => c q.symm
        simp only [b, Bool.false_eq_true, if_false]
        congr 2
        refine List.filter_congr fun z _ => ?_
        by_cases d : z = y
        · subst d
          simp [c]
        · simp [d]
      rw [e, h, K_out g x (x :: l), List.filter_cons (xs := l) (p := fun b => !b == x)]
      simp
theorem K_J (a : Nat) : ∀ l : List Nat, K (fun p => chi p a) l = J l a
  | [] => rfl
  | x :: l => by rw [K, J, K_J a l]
theorem jacobiBy_eq {a n : Nat} (ho : n % 2 = 1) (l : n < LIM) : jacobiBy a n = jac a n := by
  have k := primesOn_ok FUEL n (by omega) l
  rw [jac_eq k.1 k.2 (by omega), ← K_J, ← K_dups]
  unfold jacobiBy partsBy
  dsimp only
  rw [fold_K (fun x : Nat × Nat => (if a % x.1 = 0 then (0 : Int) else if power a ((x.1 - 1) / 2) x.1 = 1 then 1 else -1) ^ x.2), Int.one_mul, K_perm (List.mergeSort_perm _ _)]
  refine K_congr fun x m => ?_
  dsimp only
  congr 1
  unfold chi
  rw [mem_eraseDups] at m
  have xd := dvd_prod m
  rw [k.2] at xd
  have xl := Nat.le_of_dvd (by omega) xd
  rw [power_nat (by unfold LIM at l; have : (2 : Nat) ^ 65 = 36893488147419103232 := by decide
                    omega)]
end NT
/-! What the loops of sign_by keep: the symbol, by the law of exchange. -/
namespace Jc
open Rb12
structure Inv (a n s u l : Int) : Prop where
  o : l.toNat % 2 = 1
  is : s * NT.jac u.toNat l.toNat = NT.jac a.toNat n.toNat
theorem start {a n r : Int} (e : r = a % n) (a0 : 0 ≤ a) (o : n % 2 = 1) (n0 : 0 < n) : 0 ≤ r ∧ 0 < n ∧ Inv a n 1 r n := by
  have r0 := Int.emod_nonneg a (show n ≠ 0 by omega)
  refine ⟨by omega, n0, ⟨by omega, ?_⟩⟩
  have : r.toNat = a.toNat % n.toNat := by
    have h : r = ((a.toNat % n.toNat : Nat) : Int) := by
      rw [e, Int.natCast_emod, Int.toNat_of_nonneg a0, Int.toNat_of_nonneg (by omega)]
    omega
  rw [this, NT.jac_mod (by omega), Int.one_mul]
theorem istart {a n s u l : Int} (h : Inv a n s u l) (u0 : 0 < u) (l0 : 0 < l) : 0 < u ∧ u ≤ u ∧ 0 < l ∧ Inv a n s u l := ⟨u0, by omega, l0, h⟩
theorem half {a n s u l q : Int} (h : Inv a n s u l) (e : u = 2 * q) (u0 : 0 < u) : s * (NT.two l.toNat * NT.jac q.toNat l.toNat) = NT.jac a.toNat n.toNat := by
  rw [← h.is, ← NT.jac_two h.o, ← NT.jac_mul h.o]
  have : u.toNat = 2 * q.toNat := by omega
  rw [this]
theorem flip {a n s u v l q : Int} (h : Inv a n s u l) (e : u = 2 * q) (u0 : 0 < u) (ul : u ≤ v) (l0 : 0 < l) (c : l % 8 = 3 ∨ l % 8 = 5) :
    0 < q ∧ q ≤ v ∧ 0 < l ∧ Inv a n (-s) q l := by
  refine ⟨by omega, by omega, l0, ⟨h.o, ?_⟩⟩
  rw [← half h e u0]
  have : NT.two l.toNat = -1 := by
    unfold NT.two
    rw [if_neg (by omega)]
  rw [this]
  grind
theorem keep {a n s u v l q : Int} (h : Inv a n s u l) (e : u = 2 * q) (u0 : 0 < u) (ul : u ≤ v) (l0 : 0 < l) (c : ¬ (l % 8 = 3 ∨ l % 8 = 5)) :
    0 < q ∧ q ≤ v ∧ 0 < l ∧ Inv a n s q l := by
  refine ⟨by omega, by omega, l0, ⟨h.o, ?_⟩⟩
  rw [← half h e u0]
  have := h.o
  have : NT.two l.toNat = 1 := by
    unfold NT.two
    rw [if_pos (by omega)]
  rw [this]
  grind
theorem swap {a n s u l r : Int} (h : Inv a n s u l) (e : r = l % u) (u0 : 0 < u) (l0 : 0 < l) (o : u % 2 = 1) :
    s * ((if u % 4 = 3 ∧ l % 4 = 3 then -1 else 1) * NT.jac r.toNat u.toNat) = NT.jac a.toNat n.toNat := by
  rw [← h.is, NT.jac_swap (by omega) h.o, NT.sg_quarter (by omega) h.o]
  have : r.toNat = l.toNat % u.toNat := by
    have h : r = ((l.toNat % u.toNat : Nat) : Int) := by
      rw [e, Int.natCast_emod, Int.toNat_of_nonneg (by omega), Int.toNat_of_nonneg (by omega)]
    omega
  rw [this, NT.jac_mod (by omega)]
  by_cases c : u % 4 = 3 ∧ l % 4 = 3
  · rw [if_pos c, if_pos (by omega)]
  · rw [if_neg c, if_neg (by omega)]
theorem swapped {a n s u l r : Int} (h : Inv a n s u l) (e : r = l % u) (u0 : 0 < u) (l0 : 0 < l) (o : u % 2 = 1) (c : u % 4 = 3 ∧ l % 4 = 3) :
    0 ≤ r ∧ 0 < u ∧ Inv a n (-s) r u := by
  have r0 := Int.emod_nonneg l (show u ≠ 0 by omega)
  refine ⟨by omega, u0, ⟨by omega, ?_⟩⟩
  have := swap h e u0 l0 o
  rw [if_pos c] at this
  rw [← this]
  grind
theorem same {a n s u l r : Int} (h : Inv a n s u l) (e : r = l % u) (u0 : 0 < u) (l0 : 0 < l) (o : u % 2 = 1) (c : ¬ (u % 4 = 3 ∧ l % 4 = 3)) :
    0 ≤ r ∧ 0 < u ∧ Inv a n s r u := by
  have r0 := Int.emod_nonneg l (show u ≠ 0 by omega)
  refine ⟨by omega, u0, ⟨by omega, ?_⟩⟩
  have := swap h e u0 l0 o
  rw [if_neg c] at this
  rw [← this]
  grind
theorem end_even {a n : Int} (n0 : 0 ≤ n) (c : n % 2 = 0) : PyRb12.jacobi a n = [-2] := by
  show (if n.toNat % 2 = 0 then [-2] else [jacobiBy a.toNat n.toNat]) = _
  rw [if_pos (by omega)]
theorem spec {a n : Int} (n0 : 0 ≤ n) (n1 : n ≤ 18446744073709551615) (c : n % 2 = 1) : PyRb12.jacobi a n = [NT.jac a.toNat n.toNat] := by
  show (if n.toNat % 2 = 0 then [-2] else [jacobiBy a.toNat n.toNat]) = _
  rw [if_neg (by omega), NT.jacobiBy_eq (by omega) (by have : NT.LIM = 18446744073709551616 := rfl
                                                       omega)]
theorem end_zero {a n s u l : Int} (h : Inv a n s u l) (n0 : 0 ≤ n) (n1 : n ≤ 18446744073709551615) (c : n % 2 = 1) (u0 : 0 ≤ u) (u1 : ¬ 0 < u) (l1 : 1 < l) : PyRb12.jacobi a n = [0] := by
  rw [spec n0 n1 c, ← h.is, show u.toNat = 0 by omega, NT.jac_zero h.o (by omega), Int.mul_zero]
theorem end_one {a n s u l : Int} (h : Inv a n s u l) (n0 : 0 ≤ n) (n1 : n ≤ 18446744073709551615) (c : n % 2 = 1) (u0 : 0 ≤ u) (u1 : ¬ 0 < u) (l0 : 0 < l) (l1 : ¬ 1 < l) : PyRb12.jacobi a n = [s] := by
  rw [spec n0 n1 c, ← h.is, show l.toNat = 1 by omega, NT.jac_one, Int.mul_one]
end Jc
namespace Stp
open PySem PySem.W PySem.Calls PyProof.Rows
section
variable {prog : Program} {w : World} {A : Around} {E : Value → Shared → Prop} {s : Shared} {x y : Int} {t u : Tok} {Q : Value → Shared → Prop}
theorem log_le {y : Int} (h0 : 0 < y) (h1 : y ≤ 18446744073709551616) : y.natAbs.log2 < 9000 := by
  have : y.natAbs.log2 < 65 := (Nat.log2_lt (by omega)).mpr (by omega)
  omega
theorem step_half (hy : y = 2) (h : ∀ q : Int, 2 * q ≤ x → x < 2 * q + 2 → Q (.int q s.toks) { s with toks := s.toks + 1 }) :
    wpAny (model prog w) A (binaryOp .FloorDiv (.int x t) (.int y u)) Q E s := by
  subst hy
  refine PyProof.Rows.floordiv_int (by decide) ?_ (Or.inl (PyProof.noPylong_of_log2 (log_le (by decide) (by decide))))
  have f := Int.fdiv_eq_ediv_of_nonneg x (show (0 : Int) ≤ 2 by decide)
  exact h _ (by omega) (by omega)
theorem step_rest (hy : 0 < y) (h : ∀ r : Int, r = x % y → 0 ≤ r → r < y → Q (.int r s.toks) { s with toks := s.toks + 1 }) :
    wpAny (model prog w) A (binaryOp .Mod (.int x t) (.int y u)) Q E s :=
  PyProof.Rows.mod_int (by omega) (h _ (Int.fmod_eq_emod_of_nonneg x (Int.le_of_lt hy)) (Int.fmod_nonneg_of_pos x hy) (Int.fmod_lt_of_pos x hy))
end
end Stp
open PySem PySem.W PyProof.Rows
local macro_rules | `(tactic| walk_at "binaryOp FloorDiv int int") => `(tactic| (k_here; (with_reducible refine' Stp.step_half ?k1 ?_); (case k1 => k_dflt omega); intro q' h0' h1'))
local macro_rules | `(tactic| walk_at "binaryOp Mod int int") => `(tactic| (k_here; (with_reducible refine' Stp.step_rest ?k1 ?_); (case k1 => k_dflt omega); intro r' e' h0' h1'))
namespace Jc
open PySem PySem.W
theorem said : PySem.Challenge.rw_made64_s10_jacobi.wellSaid = true := by decide +kernel
theorem bounds {a n : Int} (h : PySem.Challenge.rw_made64_s10_jacobi.pre [WData.int a, WData.int n] = true) :
    0 ≤ a ∧ a ≤ 18446744073709551615 ∧ 0 ≤ n ∧ n ≤ 18446744073709551615 := by
  obtain ⟨v, w, q, e⟩ := os_pre said h
  obtain ⟨x, y, u⟩ := v
  have e1 := os_j_int (List.cons.inj e).1
  have e2 := os_j_int (List.cons.inj (List.cons.inj e).2).1
  subst e1 e2
  have w2 : (Codec.inInt 0 18446744073709551615 a && (Codec.inInt 0 18446744073709551615 n && true)) = true := w
  simp only [Codec.inInt, Bool.and_eq_true, decide_eq_true_eq] at w2
  exact ⟨w2.1.1, w2.1.2, w2.2.1.1, w2.2.1.2⟩
theorem fin {a n : Int} {l : List Int} (h : PySem.Challenge.rw_made64_s10_jacobi.pre [WData.int a, WData.int n] = true) (e : PyRb12.jacobi a n = l) :
    PySem.Challenge.rw_made64_s10_jacobi.post [WData.int a, WData.int n] (ofPy (PyData.list (l.map PyData.int))) = true := by
  obtain ⟨v, w, q, ee⟩ := os_pre said h
  obtain ⟨x, y, u⟩ := v
  have e1 := os_j_int (List.cons.inj ee).1
  have e2 := os_j_int (List.cons.inj (List.cons.inj ee).2).1
  subst e1 e2
  rw [ee]
  refine os_shut said w ?_
  show ofPy (PyData.list (l.map PyData.int)) = WData.list ((PyRb12.jacobi a n).map WData.int)
  rw [os_list rfl, e]
theorem fin_even {a n : Int} (h : PySem.Challenge.rw_made64_s10_jacobi.pre [WData.int a, WData.int n] = true) (c : n % 2 = 0) :
    PySem.Challenge.rw_made64_s10_jacobi.post [WData.int a, WData.int n] (ofPy (PyData.list [PyData.int (-2)])) = true :=
  fin (l := [-2]) h (end_even (bounds h).2.2.1 c)
theorem fin_zero {a n s u l : Int} (h : PySem.Challenge.rw_made64_s10_jacobi.pre [WData.int a, WData.int n] = true) (i : Inv a n s u l) (c : n % 2 = 1) (u0 : 0 ≤ u) (u1 : ¬ 0 < u) (l1 : 1 < l) :
    PySem.Challenge.rw_made64_s10_jacobi.post [WData.int a, WData.int n] (ofPy (PyData.list [PyData.int 0])) = true :=
  fin (l := [0]) h (end_zero i (bounds h).2.2.1 (bounds h).2.2.2 c u0 u1 l1)
theorem fin_one {a n s u l : Int} (h : PySem.Challenge.rw_made64_s10_jacobi.pre [WData.int a, WData.int n] = true) (i : Inv a n s u l) (c : n % 2 = 1) (u0 : 0 ≤ u) (u1 : ¬ 0 < u) (l0 : 0 < l) (l1 : ¬ 1 < l) :
    PySem.Challenge.rw_made64_s10_jacobi.post [WData.int a, WData.int n] (ofPy (PyData.list [PyData.int s])) = true :=
  fin h (end_one i (bounds h).2.2.1 (bounds h).2.2.2 c u0 u1 l0 l1)
end Jc
example : Int → Int → Int → Int → List Int → Int → Int → Prop := fun a n l v _ s u => 0 < u ∧ u ≤ v ∧ 0 < l ∧ Jc.Inv a n s u l
example : Int → Int → List Int → Int → Int → Int → Prop := fun a n _ s u l => 0 ≤ u ∧ 0 < l ∧ Jc.Inv a n s u l
set_option maxRecDepth 100000 in
set_option maxHeartbeats 8000000 in
theorem PySem.Challenge.cw_made64_s10_jacobi_holds : PySem.Challenge.rw_made64_s10_jacobi.Holds := by
  k_with "state" => first
    | exact Jc.start (by assumption) (by omega) (by omega) (by omega)
    | exact Jc.istart (by assumption) (by omega) (by omega)
    | exact Jc.flip (by assumption) (by omega) (by omega) (by omega) (by omega) (by omega)
    | exact Jc.keep (by assumption) (by omega) (by omega) (by omega) (by omega) (by omega)
    | exact Jc.swapped (by assumption) (by assumption) (by omega) (by omega) (by omega) (by omega)
    | exact Jc.same (by assumption) (by assumption) (by omega) (by omega) (by omega) (by omega)
  k_with "exec While Compare cons nil" => first
    | k_while_given ["a", "n", "lower", "upper!"] (fun a n l v _ s u => 0 < u ∧ u ≤ v ∧ 0 < l ∧ Jc.Inv a n s u l) (fun _ _ _ _ _ _ u => u.toNat) "sign" "upper"
    | k_while_given ["a", "n"] (fun a n _ s u l => 0 ≤ u ∧ 0 < l ∧ Jc.Inv a n s u l) (fun _ _ _ _ u _ => u.toNat) "sign" "upper" "lower"
  w_on
  k_headS
  (case hw => exact ⟨[.int 0, .int 0], by decide +kernel, by decide +kernel⟩)
  w_strict (k_goS0; (all_goals try k_fold); (have hb := Jc.bounds (by assumption)); k_steps; (all_goals (try (w_end; sp_is; wrow_close))); (all_goals (try k_data)); all_goals first | sp_left | w_report)
  all_goals first
    | exact Jc.fin_zero (by assumption) (by assumption) (by omega) (by omega) (by omega) (by omega)
    | exact Jc.fin_one (by assumption) (by assumption) (by omega) (by omega) (by omega) (by omega) (by omega)
    | exact Jc.fin_even (by assumption) (by omega)
#print axioms PySem.Challenge.cw_made64_s10_jacobi_holds
