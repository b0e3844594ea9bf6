import PyProof.Rows.All
import KE.OsGo
import KE.OsEnd
import KE.OsArgs
import PySem.Challenge.RW_made64_s01_common
set_option Elab.async false
set_option linter.unusedVariables false
namespace Cm
def G (a b : Int) : Int := ((Nat.gcd a.toNat b.toNat : Nat) : Int)
structure Inv (a b d r : Int) : Prop where
  is : Nat.gcd d.toNat r.toNat = Nat.gcd a.toNat b.toNat
theorem fm {d r : Int} (d0 : 0 ≤ d) (r0 : 0 < r) : (Int.fmod d r).toNat = d.toNat % r.toNat := by
  rw [Int.fmod_eq_emod_of_nonneg d (Int.le_of_lt r0)]
  have e1 : d = (d.toNat : Int) := by omega
  have e2 : r = (r.toNat : Int) := by omega
  rw [e1, e2]
  rfl
theorem start {a b : Int} (ha : 0 ≤ a) (hb : 0 ≤ b) : 0 ≤ a ∧ 0 ≤ b ∧ Inv a b a b := ⟨ha, hb, ⟨rfl⟩⟩
theorem turn {a b d r : Int} (h : Inv a b d r) (d0 : 0 ≤ d) (r0 : 0 < r) : 0 ≤ r ∧ 0 ≤ Int.fmod d r ∧ Inv a b r (Int.fmod d r) := by
  refine ⟨by omega, Int.fmod_nonneg_of_pos d r0, ⟨?_⟩⟩
  rw [fm d0 r0, ← h.is, Nat.gcd_comm d.toNat, Nat.gcd_rec r.toNat d.toNat, Nat.gcd_comm]
theorem less {d r : Int} (r0 : 0 < r) : (Int.fmod d r).toNat < r.toNat := by
  have := Int.fmod_lt_of_pos d r0
  omega
theorem out {a b d r : Int} (h : Inv a b d r) (d0 : 0 ≤ d) (r0 : ¬ 0 < r) : d = G a b := by
  unfold G
  rw [← h.is, show r.toNat = 0 by omega, Nat.gcd_zero_right]
  omega
theorem spec (a b : Int) : PyRb12.common a b = [G a b] := rfl
end Cm
namespace Cm
open PySem PySem.W
theorem said : PySem.Challenge.rw_made64_s01_common.wellSaid = true := by decide +kernel
theorem bounds {a b : Int} (h : PySem.Challenge.rw_made64_s01_common.pre [WData.int a, WData.int b] = true) :
    0 ≤ a ∧ a ≤ 18446744073709551615 ∧ 0 ≤ b ∧ b ≤ 18446744073709551615 := by
  obtain ⟨v, w, q, e⟩ := os_pre said h
  obtain ⟨x, y, u⟩ := v
  have e1 := os_j_int (List.cons.inj e).1
  have e2 := os_j_int (List.cons.inj (List.cons.inj e).2).1
  subst e1 e2
  have w2 : (Codec.inInt 0 18446744073709551615 a && (Codec.inInt 0 18446744073709551615 b && true)) = true := w
  simp only [Codec.inInt, Bool.and_eq_true, decide_eq_true_eq] at w2
  exact ⟨w2.1.1, w2.1.2, w2.2.1.1, w2.2.1.2⟩
theorem fin {a b d r : Int} (h : PySem.Challenge.rw_made64_s01_common.pre [WData.int a, WData.int b] = true) (i : Inv a b d r) (d0 : 0 ≤ d) (hr : ¬ 0 < r) :
    PySem.Challenge.rw_made64_s01_common.post [WData.int a, WData.int b] (ofPy (PyData.list [PyData.int d])) = true := by
  obtain ⟨v, w, q, e⟩ := os_pre said h
  obtain ⟨x, y, u⟩ := v
  have e1 := os_j_int (List.cons.inj e).1
  have e2 := os_j_int (List.cons.inj (List.cons.inj e).2).1
  subst e1 e2
  rw [e]
  refine os_shut said w ?_
  show ofPy (PyData.list ([d].map PyData.int)) = WData.list ((PyRb12.common a b).map WData.int)
  rw [os_list rfl, spec, ← out i d0 hr]
end Cm
open PySem PySem.W
example : Int → Int → List Int → Int → Int → Prop := fun a b _ d r => 0 ≤ d ∧ 0 ≤ r ∧ Cm.Inv a b d r
set_option maxRecDepth 100000 in
set_option maxHeartbeats 8000000 in
theorem PySem.Challenge.cw_made64_s01_common_holds : PySem.Challenge.rw_made64_s01_common.Holds := by
  k_with "state" => first
    | exact Cm.start (Cm.bounds (by assumption)).1 (Cm.bounds (by assumption)).2.2.1
    | exact Cm.turn (by assumption) (by omega) (by omega)
  k_with "measure" => exact Cm.less (by omega)
  k_with "exec While Compare cons nil" => k_while_given ["a", "b"] (fun a b _ d r => 0 ≤ d ∧ 0 ≤ r ∧ Cm.Inv a b d r) (fun _ _ _ _ r => r.toNat) "divisor" "rest"
  open_ks with [.int 0, .int 0]
  all_goals exact Cm.fin (by assumption) (by assumption) (by assumption) (by assumption)
#print axioms PySem.Challenge.cw_made64_s01_common_holds
