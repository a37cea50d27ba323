import PyProof.Rows.All
import KE.OsGo
import KE.OsArgs
import PySem.Challenge.RW_wakeslots_s01_next_awake
open PySem PySem.W
set_option Elab.async false
namespace My
/-- The search finds the first. -/
theorem first_is {f : Nat → Bool} : ∀ (n t s : Nat), t ≤ s → s < t + n → f s = true → (∀ u, t ≤ u → u < s → f u = false) → Kh298.firstOf f n t = some s
  | 0, t, s, h1, h2, _, _ => by omega
  | n + 1, t, s, h1, h2, h3, h4 => by
    unfold Kh298.firstOf
    by_cases e : t = s
    · subst e
      rw [h3]; rfl
    · have h5 := h4 t (Nat.le_refl t) (by omega)
      rw [h5]
      have := first_is n (t + 1) s (by omega) (by omega) h3 (fun u a b => h4 u (by omega) b)
      simpa using this
/-- The first multiple of x from t on. -/
def upTo (t x : Nat) : Nat := (t + x - 1) / x * x
theorem upTo_mod (t x : Nat) : upTo t x % x = 0 := Nat.mul_mod_left _ _
theorem upTo_ge {t x : Nat} (hx : 0 < x) : t ≤ upTo t x ∧ upTo t x < t + x := by
  unfold upTo
  have h := Nat.div_add_mod (t + x - 1) x
  have h2 := Nat.mod_lt (t + x - 1) hx
  rw [Nat.mul_comm] at h
  omega
theorem upTo_least {t x u : Nat} (hx : 0 < x) (h : t ≤ u) (hu : u % x = 0) : upTo t x ≤ u := by
  have h1 := (upTo_ge (t := t) hx).2
  obtain ⟨k, rfl⟩ := Nat.dvd_of_mod_eq_zero hu
  by_cases c : upTo t x ≤ x * k
  · exact c
  · exfalso
    unfold upTo at *
    rw [Nat.mul_comm _ x] at c h1
    have h3 : k < (t + x - 1) / x := Nat.lt_of_mul_lt_mul_left (by omega : x * k < x * ((t + x - 1) / x))
    have h4 := Nat.mul_le_mul_left x (show k + 1 ≤ (t + x - 1) / x from h3)
    rw [Nat.mul_add, Nat.mul_one] at h4
    omega
theorem next_is {p q t : Nat} (hp : 0 < p) (hq : 0 < q) : Kh298.next ⟨p, q⟩ t = min (upTo t p) (upTo t q) := by
  unfold Kh298.next
  have a := upTo_ge (t := t) hp
  have b := upTo_ge (t := t) hq
  rw [first_is (p + 1) t (min (upTo t p) (upTo t q)) (by omega) (by omega) ?_ ?_]
  · rfl
  · unfold Kh298.awake
    by_cases c : upTo t p ≤ upTo t q
    · rw [Nat.min_eq_left c]; simp [upTo_mod]
    · rw [Nat.min_eq_right (by omega)]; simp [upTo_mod]
  · intro u h1 h2
    unfold Kh298.awake
    have e1 : ¬ u % p = 0 := fun e => by have := upTo_least hp h1 e; omega
    have e2 : ¬ u % q = 0 := fun e => by have := upTo_least hq h1 e; omega
    simp [e1, e2]
theorem fdiv_up {t x : Int} (ht : 0 ≤ t) (hx : 0 < x) : Int.fdiv (t + x - 1) x * x = ((upTo t.toNat x.toNat : Nat) : Int) := by
  obtain ⟨a, rfl⟩ := Int.eq_ofNat_of_zero_le ht
  obtain ⟨b, rfl⟩ := Int.eq_ofNat_of_zero_le (Int.le_of_lt hx)
  unfold upTo
  have hb : 0 < b := by omega
  rw [Int.fdiv_eq_ediv_of_nonneg _ (by omega)]
  have e : ((a : Int) + (b : Int) - 1) = ((a + b - 1 : Nat) : Int) := by omega
  rw [e]
  simp
/-- What is due of next_awake, by whole numbers. -/
theorem next_due {ap aq t : Int} (h1 : 2 ≤ ap) (h2 : ap ≤ 1000) (h3 : 2 ≤ aq) (h4 : aq ≤ 1000) (h5 : 0 ≤ t) (h6 : t ≤ 1099511627776) :
    PyKh298.next_awake ap aq t = [min (Int.fdiv (t + ap - 1) ap * ap) (Int.fdiv (t + aq - 1) aq * aq)] := by
  rw [fdiv_up h5 (by omega), fdiv_up h5 (by omega)]
  show [(Kh298.doing (.next ⟨ap.toNat, aq.toNat⟩ t.toNat)).value] = _
  unfold Kh298.doing
  have e : ¬ (Kh298.ok ⟨ap.toNat, aq.toNat⟩ = false ∨ Kh298.FAR < t.toNat) := by
    unfold Kh298.ok Kh298.FAR
    simp
    omega
  simp only [e, if_false]
  rw [next_is (by omega) (by omega)]
  unfold Kh298.say
  simp only []
  congr 1
  omega
theorem next_refused {ap aq t : Int} (h0 : 0 ≤ ap) (h1 : 0 ≤ aq) (h2 : 0 ≤ t) (h : ap < 2 ∨ 1000 < ap ∨ aq < 2 ∨ 1000 < aq ∨ 1099511627776 < t) :
    PyKh298.next_awake ap aq t = [-22] := by
  show [(Kh298.doing (.next ⟨ap.toNat, aq.toNat⟩ t.toNat)).value] = _
  unfold Kh298.doing
  have e : (Kh298.ok ⟨ap.toNat, aq.toNat⟩ = false ∨ Kh298.FAR < t.toNat) := by
    unfold Kh298.ok Kh298.FAR
    simp
    omega
  simp only [e, if_true]
  rfl
end My
namespace My
theorem said : PySem.Challenge.rw_wakeslots_s01_next_awake.wellSaid = true := by decide +kernel
theorem bounds {a b c : Int} (w : Codec.withinAll [.int 0 4294967295, .int 0 4294967295, .int 0 18446744073709551615] (a, b, c, ()) = true) : 0 ≤ a ∧ 0 ≤ b ∧ 0 ≤ c := by
  simp [Codec.withinAll, Codec.inPair, Codec.within, Codec.inInt] at w
  omega
theorem ite_min {a b : Int} : (if b < a then b else a) = min a b := by
  split <;> omega
theorem end_refused {ap aq t : Int} (hb : 0 ≤ ap ∧ 0 ≤ aq ∧ 0 ≤ t) (h : ap < 2 ∨ 1000 < ap ∨ aq < 2 ∨ 1000 < aq ∨ 1099511627776 < t) :
    ofPy (PyData.list [PyData.int (-22)]) = WData.list ((PyKh298.next_awake ap aq t).map WData.int) := by
  refine os_list ?_
  rw [next_refused hb.1 hb.2.1 hb.2.2 h]
  rfl
theorem end_due {ap aq t v : Int} (hb : 0 ≤ ap ∧ 0 ≤ aq ∧ 0 ≤ t) (h1 : 2 ≤ ap) (h2 : ap ≤ 1000) (h3 : 2 ≤ aq) (h4 : aq ≤ 1000) (h6 : t ≤ 1099511627776)
    (hv : v = min (Int.fdiv (t + ap - 1) ap * ap) (Int.fdiv (t + aq - 1) aq * aq)) :
    ofPy (PyData.list [PyData.int v]) = WData.list ((PyKh298.next_awake ap aq t).map WData.int) := by
  refine os_list ?_
  rw [next_due h1 h2 h3 h4 hb.2.2 h6, hv]
  rfl
end My
set_option maxRecDepth 100000 in
set_option maxHeartbeats 8000000 in
theorem PySem.Challenge.cw_wakeslots_s01_next_awake_holds : PySem.Challenge.rw_wakeslots_s01_next_awake.Holds := by
  open_ks with [.int 2, .int 2, .int 0]
  all_goals (
    os_open My.said with a w q e
    obtain ⟨x, y, z, u⟩ := a
    have e1 := os_j_int (List.cons.inj e).1
    have e2 := os_j_int (List.cons.inj (List.cons.inj e).2).1
    have e3 := os_j_int (List.cons.inj (List.cons.inj (List.cons.inj e).2).2).1
    subst e1 e2 e3
    have hb := My.bounds w
    clear w q e
    first
      | exact My.end_refused hb (by omega)
      | exact My.end_due hb (by omega) (by omega) (by omega) (by omega) (by omega) My.ite_min
      | exact My.end_due hb (by omega) (by omega) (by omega) (by omega) (by omega) (by omega))
#print axioms PySem.Challenge.cw_wakeslots_s01_next_awake_holds
