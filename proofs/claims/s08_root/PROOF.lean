import PyProof.Rows.All
import KE.OsGo
import KE.OsEnd
import KE.OsArgs
import PySem.Challenge.RW_made64_s08_root
set_option Elab.async false
set_option linter.unusedVariables false
/-! Roots: what the specification's are, and the program's halving. -/
namespace Rt
open Rb12
theorem rootOn_ok {n k : Nat} : ∀ (f lo hi : Nat), lo ^ k ≤ n → n < hi ^ k → lo < hi → hi - lo ≤ 2 ^ f → (rootOn f n k lo hi) ^ k ≤ n ∧ n < (rootOn f n k lo hi + 1) ^ k
  | 0, lo, hi, h1, h2, h3, h4 => by
    rw [rootOn]
    have : hi = lo + 1 := by omega
    rw [← this]
    exact ⟨h1, h2⟩
  | f + 1, lo, hi, h1, h2, h3, h4 => by
    rw [rootOn]
    rw [Nat.pow_succ] at h4
    by_cases c : hi ≤ lo + 1
    · rw [if_pos c]
      have : hi = lo + 1 := by omega
      rw [← this]
      exact ⟨h1, h2⟩
    · rw [if_neg c]
      dsimp only
      by_cases d : ((lo + hi) / 2) ^ k ≤ n
      · rw [if_pos d]
        exact rootOn_ok f _ hi d h2 (by omega) (by omega)
      · rw [if_neg d]
        exact rootOn_ok f lo _ h1 (by omega) (by omega) (by omega)
theorem root_ok {n k : Nat} (hn : n < 18446744073709551616) (hk : 1 ≤ k) : (root n k) ^ k ≤ n ∧ n < (root n k + 1) ^ k := by
  unfold root
  rw [if_neg (by omega)]
  by_cases c : 64 ≤ k
  · rw [if_pos c]
    have b : n < 2 ^ k := Nat.lt_of_lt_of_le (by have : (2 : Nat) ^ 64 = 18446744073709551616 := by decide
                                                 omega) (Nat.pow_le_pow_right (by decide) c)
    by_cases z : n = 0
    · rw [if_pos z, Nat.zero_pow (by omega), z]
      simp
    · rw [if_neg z, Nat.one_pow]
      exact ⟨by omega, b⟩
  · rw [if_neg c]
    have e : BIG = 18446744073709551616 := rfl
    refine rootOn_ok 66 0 BIG ?_ ?_ (by rw [e]; decide) (by rw [e]; decide)
    · rw [Nat.zero_pow (by omega)]; exact Nat.zero_le n
    · refine Nat.lt_of_lt_of_le (by rw [← e] at hn; exact hn) ?_
      have : BIG ^ 1 ≤ BIG ^ k := Nat.pow_le_pow_right (by rw [e]; decide) hk
      rw [Nat.pow_one] at this
      exact this
theorem only {n k r s : Nat} (r1 : r ^ k ≤ n) (r2 : n < (r + 1) ^ k) (s1 : s ^ k ≤ n) (s2 : n < (s + 1) ^ k) : r = s := by
  have le : ∀ {a b : Nat}, a ^ k ≤ n → n < (b + 1) ^ k → a ≤ b := by
    intro a b ha hb
    apply Classical.byContradiction
    intro c
    have := Nat.pow_le_pow_left (show b + 1 ≤ a by omega) k
    omega
  have := le r1 s2
  have := le s1 r2
  omega
/-! The program's powers. -/
def A (x k n : Int) : Bool := decide (n < x ^ k.toNat)
structure At (x : Int) (l : Nat) (p : Int) : Prop where
  eq : p = x ^ l
theorem pstart {x n : Int} (h : 1 ≤ n) : 1 ≤ (1 : Int) ∧ (1 : Int) ≤ n ∧ At x ([] : List Int).length 1 := ⟨by decide, h, ⟨(Int.pow_zero x).symm⟩⟩
theorem pturn {x n p s : Int} {pre : List Int} (h : At x pre.length p) (p0 : 1 ≤ p) (x0 : 2 ≤ x) (g : ¬ n < p * x) :
    1 ≤ p * x ∧ p * x ≤ n ∧ At x (pre ++ [s]).length (p * x) := by
  refine ⟨?_, by omega, ⟨?_⟩⟩
  · have := Int.mul_le_mul p0 (show 1 ≤ x by omega) (by decide) (by omega)
    omega
  · have l : (pre ++ [s]).length = pre.length + 1 := by simp
    rw [l, Int.pow_succ, h.eq]
theorem pow_mono {x : Int} (x0 : 1 ≤ x) {a b : Nat} (h : a ≤ b) : x ^ a ≤ x ^ b := by
  obtain ⟨m, rfl⟩ := Int.eq_ofNat_of_zero_le (show 0 ≤ x by omega)
  rw [← Int.natCast_pow, ← Int.natCast_pow]
  exact Int.ofNat_le.mpr (Nat.pow_le_pow_right (by omega) h)
theorem ptrue {x k n p : Int} {pre : List Int} (h : At x pre.length p) (x0 : 2 ≤ x) (l : pre.length < k.toNat) (g : n < p * x) : A x k n = true := by
  have e : p * x = x ^ (pre.length + 1) := by rw [Int.pow_succ, h.eq]
  have := pow_mono (show 1 ≤ x by omega) (show pre.length + 1 ≤ k.toNat by omega)
  exact decide_eq_true (by omega)
theorem pfalse {x k n p : Int} {pre : List Int} (h : At x pre.length p) (l : pre.length = k.toNat) (g : p ≤ n) : A x k n = false := by
  have e := h.eq
  rw [l] at e
  exact decide_eq_false (by omega)
/-! The program's halving. -/
structure Bt (n k lo hi : Int) : Prop where
  le : lo ^ k.toNat ≤ n
  lt : n < hi ^ k.toNat
theorem start {n k : Int} (n1 : 1 ≤ n) (k1 : 1 ≤ k) : 1 ≤ (1 : Int) ∧ 1 < n + 1 ∧ n + 1 ≤ n + 1 ∧ Bt n k 1 (n + 1) := by
  refine ⟨by decide, by omega, by omega, ⟨?_, ?_⟩⟩
  · rw [Int.one_pow]; exact n1
  · have := pow_mono (show 1 ≤ n + 1 by omega) (show 1 ≤ k.toNat by omega)
    rw [Int.pow_one] at this
    omega
theorem up {n k lo hi q : Int} (h : Bt n k lo hi) (a : A q k n = true) (l0 : 1 ≤ lo) (hn : hi ≤ n + 1) (q1 : 2 * q ≤ lo + hi) (q2 : lo + hi < 2 * q + 2) (c : 1 < hi - lo) :
    1 ≤ lo ∧ lo < q ∧ q ≤ n + 1 ∧ Bt n k lo q :=
  ⟨l0, by omega, by omega, ⟨h.le, of_decide_eq_true a⟩⟩
theorem down {n k lo hi q : Int} (h : Bt n k lo hi) (a : A q k n = false) (l0 : 1 ≤ lo) (hn : hi ≤ n + 1) (q1 : 2 * q ≤ lo + hi) (q2 : lo + hi < 2 * q + 2) (c : 1 < hi - lo) :
    1 ≤ q ∧ q < hi ∧ hi ≤ n + 1 ∧ Bt n k q hi :=
  ⟨by omega, by omega, hn, ⟨by have := of_decide_eq_false a; omega, h.lt⟩⟩
theorem down' {n k lo hi q : Int} (h : Bt n k lo hi) (a : ¬ A q k n = true) (l0 : 1 ≤ lo) (hn : hi ≤ n + 1) (q1 : 2 * q ≤ lo + hi) (q2 : lo + hi < 2 * q + 2) (c : 1 < hi - lo) :
    1 ≤ q ∧ q < hi ∧ hi ≤ n + 1 ∧ Bt n k q hi :=
  down h (by simpa using a) l0 hn q1 q2 c
theorem spec (n k : Int) : PyRb12.root n k = [((Rb12.root n.toNat k.toNat : Nat) : Int)] := rfl
theorem end_root {n k lo hi : Int} (h : Bt n k lo hi) (n0 : 1 ≤ n) (n1 : n ≤ 18446744073709551615) (k0 : 1 ≤ k) (l0 : 1 ≤ lo) (c : ¬ 1 < hi - lo) (lh : lo < hi) : PyRb12.root n k = [lo] := by
  obtain ⟨N, rfl⟩ := Int.eq_ofNat_of_zero_le (show 0 ≤ n by omega)
  obtain ⟨L, rfl⟩ := Int.eq_ofNat_of_zero_le (show 0 ≤ lo by omega)
  have e : hi = (L : Int) + 1 := by omega
  subst e
  have r := root_ok (n := N) (k := k.toNat) (by omega) (by omega)
  have a1 : L ^ k.toNat ≤ N := by have := h.le; rw [← Int.natCast_pow] at this; exact Int.ofNat_le.mp this
  have a2 : N < (L + 1) ^ k.toNat := by
    have := h.lt
    rw [show ((L : Int) + 1) = ((L + 1 : Nat) : Int) from rfl, ← Int.natCast_pow] at this
    exact Int.ofNat_lt.mp this
  rw [spec, Int.toNat_natCast, only r.1 r.2 a1 a2]
theorem end_k (n : Int) : PyRb12.root n 0 = [0] := by
  rw [spec]
  rfl
theorem end_n {k : Int} : PyRb12.root 0 k = [0] := by
  rw [spec]
  by_cases z : k.toNat = 0
  · rw [z]
    rfl
  · have r := root_ok (n := 0) (k := k.toNat) (by decide) (by omega)
    have h : Rb12.root 0 k.toNat = 0 := only r.1 r.2 (by rw [Nat.zero_pow (by omega)]; exact Nat.le_refl 0) (by rw [Nat.zero_add, Nat.one_pow]; decide)
    show [((Rb12.root 0 k.toNat : Nat) : Int)] = [0]
    rw [h]
    rfl
end Rt
namespace Stp
open PySem PySem.W PySem.Calls PyProof.Rows
section
variable {prog : Program} {w : World} {A : Around} {E : Value → Shared → Prop} {s : Shared} {x y : Int} {t u : Tok} {Q : Value → Shared → Prop}
theorem log_le {y : Int} (h0 : 0 < y) (h1 : y ≤ 18446744073709551616) : y.natAbs.log2 < 9000 := by
  have : y.natAbs.log2 < 65 := (Nat.log2_lt (by omega)).mpr (by omega)
  omega
theorem step_half (hy : y = 2) (h : ∀ q : Int, 2 * q ≤ x → x < 2 * q + 2 → Q (.int q s.toks) { s with toks := s.toks + 1 }) :
    wpAny (model prog w) A (binaryOp .FloorDiv (.int x t) (.int y u)) Q E s := by
  subst hy
  refine PyProof.Rows.floordiv_int (by decide) ?_ (Or.inl (PyProof.noPylong_of_log2 (log_le (by decide) (by decide))))
  have f := Int.fdiv_eq_ediv_of_nonneg x (show (0 : Int) ≤ 2 by decide)
  exact h _ (by omega) (by omega)
theorem step_mul (lo : 0 ≤ y) (hi : y < 18446744073709551616) (h : Q (.int (x * y) s.toks) { s with toks := s.toks + 1 }) :
    wpAny (model prog w) A (binaryOp .Mult (.int x t) (.int y u)) Q E s :=
  PyProof.Rows.mul_int h (PySem.IntMulOk.of_right (PySem.intBits_le_64 (by omega) (by omega)))
end
end Stp
open PySem PySem.W PyProof.Rows
local macro_rules | `(tactic| walk_at "binaryOp FloorDiv int int") => `(tactic| (k_here; (with_reducible refine' Stp.step_half ?k1 ?_); (case k1 => k_dflt omega); intro q' h0' h1'))
local macro_rules | `(tactic| walk_at "binaryOp Mult int int") => `(tactic| (k_here; (with_reducible refine' Stp.step_mul ?k1 ?k2 ?_); (case k1 => k_dflt omega); (case k2 => k_dflt omega)))
namespace Rt
open PySem PySem.W
theorem said : PySem.Challenge.rw_made64_s08_root.wellSaid = true := by decide +kernel
theorem bounds {n k : Int} (h : PySem.Challenge.rw_made64_s08_root.pre [WData.int n, WData.int k] = true) :
    0 ≤ n ∧ n ≤ 18446744073709551615 ∧ 0 ≤ k ∧ k ≤ 4294967295 := by
  obtain ⟨v, w, q, e⟩ := os_pre said h
  obtain ⟨x, y, u⟩ := v
  have e1 := os_j_int (List.cons.inj e).1
  have e2 := os_j_int (List.cons.inj (List.cons.inj e).2).1
  subst e1 e2
  have w2 : (Codec.inInt 0 18446744073709551615 n && (Codec.inInt 0 4294967295 k && true)) = true := w
  simp only [Codec.inInt, Bool.and_eq_true, decide_eq_true_eq] at w2
  exact ⟨w2.1.1, w2.1.2, w2.2.1.1, w2.2.1.2⟩
theorem fin {n k : Int} {l : List Int} (h : PySem.Challenge.rw_made64_s08_root.pre [WData.int n, WData.int k] = true) (e : PyRb12.root n k = l) :
    PySem.Challenge.rw_made64_s08_root.post [WData.int n, WData.int k] (ofPy (PyData.list (l.map PyData.int))) = true := by
  obtain ⟨v, w, q, ee⟩ := os_pre said h
  obtain ⟨x, y, u⟩ := v
  have e1 := os_j_int (List.cons.inj ee).1
  have e2 := os_j_int (List.cons.inj (List.cons.inj ee).2).1
  subst e1 e2
  rw [ee]
  refine os_shut said w ?_
  show ofPy (PyData.list (l.map PyData.int)) = WData.list ((PyRb12.root n k).map WData.int)
  rw [os_list rfl, e]
theorem fin_k {n k : Int} (h : PySem.Challenge.rw_made64_s08_root.pre [WData.int n, WData.int k] = true) (e : k = 0) :
    PySem.Challenge.rw_made64_s08_root.post [WData.int n, WData.int k] (ofPy (PyData.list [PyData.int 0])) = true :=
  fin (l := [0]) h (by rw [e]; exact end_k n)
theorem fin_n {n k : Int} (h : PySem.Challenge.rw_made64_s08_root.pre [WData.int n, WData.int k] = true) (e : n = 0) :
    PySem.Challenge.rw_made64_s08_root.post [WData.int n, WData.int k] (ofPy (PyData.list [PyData.int 0])) = true :=
  fin (l := [0]) h (by rw [e]; exact end_n)
theorem fin_root {n k lo hi : Int} (h : PySem.Challenge.rw_made64_s08_root.pre [WData.int n, WData.int k] = true) (i : Bt n k lo hi) (n0 : 1 ≤ n) (k0 : 1 ≤ k) (l0 : 1 ≤ lo) (c : ¬ 1 < hi - lo) (lh : lo < hi) :
    PySem.Challenge.rw_made64_s08_root.post [WData.int n, WData.int k] (ofPy (PyData.list [PyData.int lo])) = true :=
  fin h (end_root i n0 (bounds h).2.1 k0 l0 c lh)
theorem pout {x k n p : Int} {m : Nat} (h : At x (rangeKs 0 m).length p) (hm : m = k.toNat) (g : p ≤ n) : false = A x k n :=
  (pfalse h (by rw [rangeKs_length, hm]) g).symm
theorem pleft {x k n p : Int} {pre : List Int} (h : At x pre.length p) (x0 : 2 ≤ x) (l : pre.length < k.toNat) (g : n < p * x) : true = A x k n :=
  (ptrue h x0 l g).symm
end Rt
example : Int → Int → List Int → Int → Prop := fun x n pre p => 1 ≤ p ∧ p ≤ n ∧ Rt.At x pre.length p
example : Int → Int → List Int → Int → Int → Prop := fun n k _ lo hi => 1 ≤ lo ∧ lo < hi ∧ hi ≤ n + 1 ∧ Rt.Bt n k lo hi
set_option maxRecDepth 100000 in
set_option maxHeartbeats 8000000 in
theorem PySem.Challenge.cw_made64_s08_root_holds : PySem.Challenge.rw_made64_s08_root.Holds := by
  k_with "call ref" => k_call_by "power_is_above" Rt.A (fun (x k n : Int) => 2 ≤ x ∧ x < 18446744073709551616 ∧ 1 ≤ n ∧ n ≤ 18446744073709551615 ∧ 1 ≤ k ∧ k ≤ 4294967295)
  k_with "tree" => first
    | exact Rt.pout (by assumption) (by omega) (by omega)
    | exact Rt.pleft (by assumption) (by omega) (by omega) (by omega)
  k_with "state" => first
    | exact Rt.pstart (by omega)
    | exact Rt.pturn (by assumption) (by omega) (by omega) (by omega)
    | exact Rt.start (by omega) (by omega)
    | exact Rt.up (by assumption) (by assumption) (by omega) (by omega) (by omega) (by omega) (by omega)
    | exact Rt.down (by assumption) (by assumption) (by omega) (by omega) (by omega) (by omega) (by omega)
    | exact Rt.down' (by assumption) (by assumption) (by omega) (by omega) (by omega) (by omega) (by omega)
  k_with "pyIter ref" => (k_of "step" => k_state_given ["x", "n"] (fun x n pre p => 1 ≤ p ∧ p ≤ n ∧ Rt.At x pre.length p) "product")
  k_with "exec While Compare cons nil" => k_while_given ["n", "k"] (fun n k _ lo hi => 1 ≤ lo ∧ lo < hi ∧ hi ≤ n + 1 ∧ Rt.Bt n k lo hi) (fun _ _ _ lo hi => (hi - lo).toNat) "lower" "upper"
  w_on
  k_headS
  (case hw => exact ⟨[.int 0, .int 0], by decide +kernel, by decide +kernel⟩)
  w_strict (k_goS0; (all_goals try k_fold); (have hb := Rt.bounds (by assumption)); k_steps; (all_goals (try (w_end; sp_is; wrow_close))); (all_goals (try k_data)); all_goals first | sp_left | w_report)
  all_goals first
    | exact Rt.fin_root (by assumption) (by assumption) (by omega) (by omega) (by omega) (by omega) (by omega)
    | exact Rt.fin_n (by assumption) (by omega)
    | exact Rt.fin_k (by assumption) (by omega)
#print axioms PySem.Challenge.cw_made64_s08_root_holds
