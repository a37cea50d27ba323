import PyProof.Rows.All
import KE.OsGo
import KE.OsArgs
import PySem.Challenge.RW_wakeslots_s04_many
open PySem PySem.W
set_option Elab.async false
namespace My
/-- The search finds the first. -/
theorem first_is {f : Nat → Bool} : ∀ (n t s : Nat), t ≤ s → s < t + n → f s = true → (∀ u, t ≤ u → u < s → f u = false) → Kh298.firstOf f n t = some s
  | 0, t, s, h1, h2, _, _ => by omega
  | n + 1, t, s, h1, h2, h3, h4 => by
    unfold Kh298.firstOf
    by_cases e : t = s
    · subst e
      rw [h3]; rfl
    · have h5 := h4 t (Nat.le_refl t) (by omega)
      rw [h5]
      have := first_is n (t + 1) s (by omega) (by omega) h3 (fun u a b => h4 u (by omega) b)
      simpa using this
/-- The first multiple of x from t on. -/
def upTo (t x : Nat) : Nat := (t + x - 1) / x * x
theorem upTo_mod (t x : Nat) : upTo t x % x = 0 := Nat.mul_mod_left _ _
theorem upTo_ge {t x : Nat} (hx : 0 < x) : t ≤ upTo t x ∧ upTo t x < t + x := by
  unfold upTo
  have h := Nat.div_add_mod (t + x - 1) x
  have h2 := Nat.mod_lt (t + x - 1) hx
  rw [Nat.mul_comm] at h
  omega
theorem upTo_least {t x u : Nat} (hx : 0 < x) (h : t ≤ u) (hu : u % x = 0) : upTo t x ≤ u := by
  have h1 := (upTo_ge (t := t) hx).2
  obtain ⟨k, rfl⟩ := Nat.dvd_of_mod_eq_zero hu
  by_cases c : upTo t x ≤ x * k
  · exact c
  · exfalso
    unfold upTo at *
    rw [Nat.mul_comm _ x] at c h1
    have h3 : k < (t + x - 1) / x := Nat.lt_of_mul_lt_mul_left (by omega : x * k < x * ((t + x - 1) / x))
    have h4 := Nat.mul_le_mul_left x (show k + 1 ≤ (t + x - 1) / x from h3)
    rw [Nat.mul_add, Nat.mul_one] at h4
    omega
theorem next_is {p q t : Nat} (hp : 0 < p) (hq : 0 < q) : Kh298.next ⟨p, q⟩ t = min (upTo t p) (upTo t q) := by
  unfold Kh298.next
  have a := upTo_ge (t := t) hp
  have b := upTo_ge (t := t) hq
  rw [first_is (p + 1) t (min (upTo t p) (upTo t q)) (by omega) (by omega) ?_ ?_]
  · rfl
  · unfold Kh298.awake
    by_cases c : upTo t p ≤ upTo t q
    · rw [Nat.min_eq_left c]; simp [upTo_mod]
    · rw [Nat.min_eq_right (by omega)]; simp [upTo_mod]
  · intro u h1 h2
    unfold Kh298.awake
    have e1 : ¬ u % p = 0 := fun e => by have := upTo_least hp h1 e; omega
    have e2 : ¬ u % q = 0 := fun e => by have := upTo_least hq h1 e; omega
    simp [e1, e2]
theorem fdiv_up {t x : Int} (ht : 0 ≤ t) (hx : 0 < x) : Int.fdiv (t + x - 1) x * x = ((upTo t.toNat x.toNat : Nat) : Int) := by
  obtain ⟨a, rfl⟩ := Int.eq_ofNat_of_zero_le ht
  obtain ⟨b, rfl⟩ := Int.eq_ofNat_of_zero_le (Int.le_of_lt hx)
  unfold upTo
  have hb : 0 < b := by omega
  rw [Int.fdiv_eq_ediv_of_nonneg _ (by omega)]
  have e : ((a : Int) + (b : Int) - 1) = ((a + b - 1 : Nat) : Int) := by omega
  rw [e]
  simp
/-- What is due of next_awake, by whole numbers. -/
theorem next_due {ap aq t : Int} (h1 : 2 ≤ ap) (h2 : ap ≤ 1000) (h3 : 2 ≤ aq) (h4 : aq ≤ 1000) (h5 : 0 ≤ t) (h6 : t ≤ 1099511627776) :
    PyKh298.next_awake ap aq t = [min (Int.fdiv (t + ap - 1) ap * ap) (Int.fdiv (t + aq - 1) aq * aq)] := by
  rw [fdiv_up h5 (by omega), fdiv_up h5 (by omega)]
  show [(Kh298.doing (.next ⟨ap.toNat, aq.toNat⟩ t.toNat)).value] = _
  unfold Kh298.doing
  have e : ¬ (Kh298.ok ⟨ap.toNat, aq.toNat⟩ = false ∨ Kh298.FAR < t.toNat) := by
    unfold Kh298.ok Kh298.FAR
    simp
    omega
  simp only [e, if_false]
  rw [next_is (by omega) (by omega)]
  unfold Kh298.say
  simp only []
  congr 1
  omega
theorem next_refused {ap aq t : Int} (h0 : 0 ≤ ap) (h1 : 0 ≤ aq) (h2 : 0 ≤ t) (h : ap < 2 ∨ 1000 < ap ∨ aq < 2 ∨ 1000 < aq ∨ 1099511627776 < t) :
    PyKh298.next_awake ap aq t = [-22] := by
  show [(Kh298.doing (.next ⟨ap.toNat, aq.toNat⟩ t.toNat)).value] = _
  unfold Kh298.doing
  have e : (Kh298.ok ⟨ap.toNat, aq.toNat⟩ = false ∨ Kh298.FAR < t.toNat) := by
    unfold Kh298.ok Kh298.FAR
    simp
    omega
  simp only [e, if_true]
  rfl
end My
namespace My
theorem bez : ∀ m n : Nat, ∃ a b : Int, a * (m : Int) + b * (n : Int) = ((Nat.gcd m n : Nat) : Int) := by
  intro m n
  induction m, n using Nat.gcd.induction with
  | H0 n => exact ⟨0, 1, by simp⟩
  | H1 m n hm ih =>
    obtain ⟨a, b, h⟩ := ih
    refine ⟨b - a * ((n / m : Nat) : Int), a, ?_⟩
    rw [Nat.gcd_rec m n, ← h]
    have e : ((n % m : Nat) : Int) = (n : Int) - (m : Int) * ((n / m : Nat) : Int) := by
      have := Nat.div_add_mod n m
      have h2 : ((m * (n / m) + n % m : Nat) : Int) = (n : Int) := by rw [this]
      rw [Int.natCast_add, Int.natCast_mul] at h2
      omega
    rw [e, Int.mul_sub, Int.sub_mul, Int.mul_assoc, Int.mul_comm ((n / m : Nat) : Int) (m : Int)]
    omega
/-- Of y / g places in a row one serves, if g divides d. -/
theorem some_k {x y d : Nat} (hy : 0 < y) (hd : d % Nat.gcd x y = 0) (k0 : Nat) :
    ∃ k, k0 ≤ k ∧ k < k0 + y / Nat.gcd x y ∧ (k * x + d) % y = 0 := by
  obtain ⟨a, b, hab⟩ := bez x y
  have hg0 : 0 < Nat.gcd x y := Nat.gcd_pos_of_pos_right x hy
  obtain ⟨e, he⟩ := Nat.dvd_of_mod_eq_zero hd
  obtain ⟨x', hx'⟩ := Nat.gcd_dvd_left x y
  obtain ⟨y', hy'⟩ := Nat.gcd_dvd_right x y
  have hdiv : y / Nat.gcd x y = y' := by
    conv => lhs; lhs; rw [hy']
    exact Nat.mul_div_cancel_left _ hg0
  rw [hdiv]
  generalize Nat.gcd x y = g at *
  have hy'0 : 0 < y' := by
    rcases Nat.eq_zero_or_pos y' with h | h
    · rw [h] at hy'; omega
    · exact h
  -- the place, as an integer
  have hm0 := Int.emod_nonneg (-(a * (e : Int)) - (k0 : Int)) (show (y' : Int) ≠ 0 by omega)
  have hm1 := Int.emod_lt_of_pos (-(a * (e : Int)) - (k0 : Int)) (show (0 : Int) < (y' : Int) by omega)
  have hm2 := Int.mul_ediv_add_emod (-(a * (e : Int)) - (k0 : Int)) (y' : Int)
  generalize (-(a * (e : Int)) - (k0 : Int)) % (y' : Int) = r at *
  generalize (-(a * (e : Int)) - (k0 : Int)) / (y' : Int) = c at *
  obtain ⟨r', rfl⟩ := Int.eq_ofNat_of_zero_le hm0
  refine ⟨k0 + r', by omega, by omega, ?_⟩
  have key : (((k0 + r') * x + d : Nat) : Int) = (y : Int) * (b * (e : Int) - c * (x' : Int)) := by
    have hk : ((k0 + r' : Nat) : Int) = -(a * (e : Int)) - (y' : Int) * c := by
      rw [Int.natCast_add]; omega
    rw [Int.natCast_add, Int.natCast_mul, hk, he, Int.natCast_mul, ← hab]
    have hyc : (y : Int) * (c * (x' : Int)) = (y' : Int) * c * (x : Int) := by
      rw [hy', hx']
      simp only [Int.natCast_mul]
      rw [← Int.mul_assoc, ← Int.mul_assoc, Int.mul_comm (g : Int) (y' : Int), Int.mul_assoc (y' : Int) (g : Int) c, Int.mul_comm (g : Int) c, ← Int.mul_assoc]
    rw [Int.sub_mul, Int.mul_sub, hyc, Int.add_mul, Int.neg_mul]
    have e1 : a * (e : Int) * (x : Int) = a * (x : Int) * (e : Int) := Int.mul_right_comm _ _ _
    have e2 : (y : Int) * (b * (e : Int)) = b * (y : Int) * (e : Int) := by
      rw [Int.mul_left_comm, ← Int.mul_assoc]
    rw [e1, e2]
    omega
  have hdv : (y : Int) ∣ (((k0 + r') * x + d : Nat) : Int) := ⟨_, key⟩
  exact Nat.mod_eq_zero_of_dvd (Int.natCast_dvd_natCast.mp hdv)
/-- a slot of one number each -/
def Met1 (x y d u : Nat) : Prop := u % x = 0 ∧ (u + d) % y = 0
theorem met1_gcd {x y d u : Nat} (h : Met1 x y d u) : d % Nat.gcd x y = 0 := by
  have h1 : Nat.gcd x y ∣ u := Nat.dvd_trans (Nat.gcd_dvd_left x y) (Nat.dvd_of_mod_eq_zero h.1)
  have h2 : Nat.gcd x y ∣ u + d := Nat.dvd_trans (Nat.gcd_dvd_right x y) (Nat.dvd_of_mod_eq_zero h.2)
  exact Nat.mod_eq_zero_of_dvd ((Nat.dvd_add_right h1).mp h2)
theorem mul_met1 {x y d k : Nat} (h : (k * x + d) % y = 0) : Met1 x y d (k * x) := ⟨Nat.mul_mod_left _ _, h⟩
/-- one is met from t on, within x y / g of t -/
theorem some_met1 {x y d : Nat} (hx : 0 < x) (hy : 0 < y) (hd : d % Nat.gcd x y = 0) (t : Nat) : ∃ u, t ≤ u ∧ Met1 x y d u := by
  obtain ⟨k, h1, h2, h3⟩ := some_k hy hd ((t + x - 1) / x)
  refine ⟨k * x, ?_, mul_met1 h3⟩
  have := (upTo_ge (t := t) hx).1
  unfold upTo at this
  exact Nat.le_trans this (Nat.mul_le_mul_right x h1)
theorem meetOf_found {x y d t s : Nat} (hx : 0 < x) (hy : 0 < y) (h1 : t ≤ s) (h2 : Met1 x y d s) (h3 : ∀ u, t ≤ u → u < s → ¬ Met1 x y d u) : Kh298.meetOf x y d t = some s := by
  have hd := met1_gcd h2
  unfold Kh298.meetOf
  simp only []
  rw [if_neg (by omega)]
  obtain ⟨k, rfl⟩ := Nat.dvd_of_mod_eq_zero h2.1
  have hk : (t + x - 1) / x ≤ k := by
    have := upTo_least hx h1 h2.1
    unfold upTo at this
    rw [Nat.mul_comm] at this
    exact Nat.le_of_mul_le_mul_left this hx
  obtain ⟨k1, a1, a2, a3⟩ := some_k hy hd ((t + x - 1) / x)
  have hge := (upTo_ge (t := t) hx).1
  unfold upTo at hge
  have ge1 : ∀ j, (t + x - 1) / x ≤ j → t ≤ j * x := fun j hj => Nat.le_trans hge (Nat.mul_le_mul_right x hj)
  have hkk : k ≤ k1 := by
    by_cases c : k ≤ k1
    · exact c
    · exfalso
      refine h3 (k1 * x) (ge1 k1 a1) ?_ (mul_met1 a3)
      rw [Nat.mul_comm]
      exact Nat.mul_lt_mul_of_pos_left (by omega) hx
  rw [first_is _ _ k hk (by omega) ?_ ?_]
  · simp [Nat.mul_comm]
  · have := h2.2
    rw [Nat.mul_comm k x]
    simp [this]
  · intro u b1 b2
    have := h3 (u * x) (ge1 u b1) (by rw [Nat.mul_comm]; exact Nat.mul_lt_mul_of_pos_left b2 hx)
    by_cases c : (u * x + d) % y = 0
    · exact absurd (mul_met1 c) this
    · simp [c]
theorem meetOf_never {x y d t : Nat} (hx : 0 < x) (hy : 0 < y) (h : ∀ u, t ≤ u → ¬ Met1 x y d u) : Kh298.meetOf x y d t = none := by
  unfold Kh298.meetOf
  simp only []
  rw [if_pos]
  intro hd
  obtain ⟨u, a, b⟩ := some_met1 hx hy hd t
  exact h u a b
/-- the least of those of which it's so, if there's one -/
theorem least_of {P : Nat → Prop} (h : ∃ n, P n) : ∃ n, P n ∧ ∀ m, m < n → ¬ P m := by
  obtain ⟨n, hn⟩ := h
  induction n using Nat.strongRecOn with
  | _ n ih =>
    by_cases c : ∃ m, m < n ∧ P m
    · obtain ⟨m, h1, h2⟩ := c
      exact ih m h1 h2
    · exact ⟨n, hn, fun m h1 h2 => c ⟨m, h1, h2⟩⟩
/-- what meetOf tells -/
theorem meetOf_tells {x y d t : Nat} (hx : 0 < x) (hy : 0 < y) :
    (Kh298.meetOf x y d t = none ∧ ∀ u, ¬ Met1 x y d u) ∨ (∃ s, Kh298.meetOf x y d t = some s ∧ t ≤ s ∧ Met1 x y d s ∧ ∀ u, t ≤ u → u < s → ¬ Met1 x y d u) := by
  by_cases hd : d % Nat.gcd x y = 0
  · right
    obtain ⟨u, a, b⟩ := some_met1 hx hy hd t
    obtain ⟨s, ⟨s1, s2⟩, s3⟩ := least_of (P := fun u => t ≤ u ∧ Met1 x y d u) ⟨u, a, b⟩
    have s4 : ∀ u, t ≤ u → u < s → ¬ Met1 x y d u := fun u h1 h2 h3 => s3 u h2 ⟨h1, h3⟩
    exact ⟨s, meetOf_found hx hy s1 s2 s4, s1, s2, s4⟩
  · left
    have : ∀ u, ¬ Met1 x y d u := fun u h => hd (met1_gcd h)
    exact ⟨meetOf_never hx hy (fun u _ => this u), this⟩
end My
namespace My
/-- two tellings, the lesser -/
def lesser : Option Nat → Option Nat → Option Nat
  | none, o => o
  | some y, none => some y
  | some y, some x => some (min x y)
theorem least4 (a b c e : Option Nat) : Kh298.least [a, b, c, e] = lesser (lesser (lesser a b) c) e := by
  cases a <;> cases b <;> cases c <;> cases e <;> rfl
theorem lesser_none {a b : Option Nat} (ha : a = none) (hb : b = none) : lesser a b = none := by subst ha hb; rfl
/-- none, or not before u -/
def NotBefore (u : Nat) (o : Option Nat) : Prop := ∀ s, o = some s → u ≤ s
theorem lesser_notBefore {u : Nat} {a b : Option Nat} (ha : NotBefore u a) (hb : NotBefore u b) : NotBefore u (lesser a b) := by
  intro s h
  cases a with
  | none => exact hb s h
  | some y =>
    cases b with
    | none => exact ha s h
    | some x =>
      have h1 := ha y rfl
      have h2 := hb x rfl
      have h3 : min x y = s := Option.some.inj h
      omega
theorem lesser_left {u : Nat} {a b : Option Nat} (ha : a = some u) (hb : NotBefore u b) : lesser a b = some u := by
  subst ha
  cases b with
  | none => rfl
  | some x =>
    have h2 := hb x rfl
    show some (min x u) = some u
    congr 1
    omega
theorem lesser_right {u : Nat} {a b : Option Nat} (hb : b = some u) (ha : NotBefore u a) : lesser a b = some u := by
  subst hb
  cases a with
  | none => rfl
  | some x =>
    have h2 := ha x rfl
    show some (min u x) = some u
    congr 1
    omega
theorem least4_is {u : Nat} {a b c e : Option Nat} (ha : NotBefore u a) (hb : NotBefore u b) (hc : NotBefore u c) (he : NotBefore u e)
    (h : a = some u ∨ b = some u ∨ c = some u ∨ e = some u) : Kh298.least [a, b, c, e] = some u := by
  rw [least4]
  rcases h with h | h | h | h
  · exact lesser_left (lesser_left (lesser_left h hb) hc) he
  · exact lesser_left (lesser_left (lesser_right h ha) hc) he
  · exact lesser_left (lesser_right h (lesser_notBefore ha hb)) he
  · exact lesser_right h (lesser_notBefore (lesser_notBefore ha hb) hc)
/-- both awake in slot u by a's clock -/
def Met (p q r s d u : Nat) : Prop := (u % p = 0 ∨ u % q = 0) ∧ ((u + d) % r = 0 ∨ (u + d) % s = 0)
theorem met_iff {p q r s d u : Nat} : Met p q r s d u ↔ (Met1 p r d u ∨ Met1 p s d u ∨ Met1 q r d u ∨ Met1 q s d u) := by
  unfold Met Met1
  constructor
  · rintro ⟨h1 | h1, h2 | h2⟩
    · exact Or.inl ⟨h1, h2⟩
    · exact Or.inr (Or.inl ⟨h1, h2⟩)
    · exact Or.inr (Or.inr (Or.inl ⟨h1, h2⟩))
    · exact Or.inr (Or.inr (Or.inr ⟨h1, h2⟩))
  · rintro (⟨h1, h2⟩ | ⟨h1, h2⟩ | ⟨h1, h2⟩ | ⟨h1, h2⟩)
    · exact ⟨Or.inl h1, Or.inl h2⟩
    · exact ⟨Or.inl h1, Or.inr h2⟩
    · exact ⟨Or.inr h1, Or.inl h2⟩
    · exact ⟨Or.inr h1, Or.inr h2⟩
theorem meetOf_notBefore {x y d t u : Nat} (hx : 0 < x) (hy : 0 < y) (h : ∀ v, t ≤ v → v < u → ¬ Met1 x y d v) : NotBefore u (Kh298.meetOf x y d t) := by
  intro s hs
  rcases meetOf_tells (x := x) (y := y) (d := d) (t := t) hx hy with ⟨h1, _⟩ | ⟨s', h1, h2, h3, _⟩
  · rw [h1] at hs; cases hs
  · rw [h1] at hs
    cases hs
    by_cases c : u ≤ s
    · exact c
    · exact absurd h3 (h s h2 (by omega))
/-- The first slot from t on in which they meet is what's told. -/
theorem meet_found {p q r s d t u : Nat} (hp : 0 < p) (hq : 0 < q) (hr : 0 < r) (hs : 0 < s) (h1 : t ≤ u) (h2 : Met p q r s d u) (h3 : ∀ v, t ≤ v → v < u → ¬ Met p q r s d v) :
    Kh298.meet ⟨p, q⟩ ⟨r, s⟩ d t = some u := by
  have n1 : ∀ v, t ≤ v → v < u → ¬ Met1 p r d v := fun v a b c => h3 v a b (met_iff.mpr (Or.inl c))
  have n2 : ∀ v, t ≤ v → v < u → ¬ Met1 p s d v := fun v a b c => h3 v a b (met_iff.mpr (Or.inr (Or.inl c)))
  have n3 : ∀ v, t ≤ v → v < u → ¬ Met1 q r d v := fun v a b c => h3 v a b (met_iff.mpr (Or.inr (Or.inr (Or.inl c))))
  have n4 : ∀ v, t ≤ v → v < u → ¬ Met1 q s d v := fun v a b c => h3 v a b (met_iff.mpr (Or.inr (Or.inr (Or.inr c))))
  unfold Kh298.meet
  refine least4_is (meetOf_notBefore hp hr n1) (meetOf_notBefore hp hs n2) (meetOf_notBefore hq hr n3) (meetOf_notBefore hq hs n4) ?_
  rcases met_iff.mp h2 with c | c | c | c
  · exact Or.inl (meetOf_found hp hr h1 c n1)
  · exact Or.inr (Or.inl (meetOf_found hp hs h1 c n2))
  · exact Or.inr (Or.inr (Or.inl (meetOf_found hq hr h1 c n3)))
  · exact Or.inr (Or.inr (Or.inr (meetOf_found hq hs h1 c n4)))
theorem meet_never {p q r s d t : Nat} (hp : 0 < p) (hq : 0 < q) (hr : 0 < r) (hs : 0 < s) (h : ∀ v, t ≤ v → ¬ Met p q r s d v) :
    Kh298.meet ⟨p, q⟩ ⟨r, s⟩ d t = none := by
  unfold Kh298.meet
  simp only []
  rw [meetOf_never hp hr (fun v a c => h v a (met_iff.mpr (Or.inl c))), meetOf_never hp hs (fun v a c => h v a (met_iff.mpr (Or.inr (Or.inl c)))),
    meetOf_never hq hr (fun v a c => h v a (met_iff.mpr (Or.inr (Or.inr (Or.inl c))))), meetOf_never hq hs (fun v a c => h v a (met_iff.mpr (Or.inr (Or.inr (Or.inr c)))))]
  rfl
/-- refusals, by whole numbers -/
theorem meet_refused {ap aq bp bq d t : Int} (h0 : 0 ≤ ap) (h1 : 0 ≤ aq) (h2 : 0 ≤ bp) (h3 : 0 ≤ bq) (h4 : 0 ≤ d) (h5 : 0 ≤ t)
    (h : ap < 2 ∨ 1000 < ap ∨ aq < 2 ∨ 1000 < aq ∨ bp < 2 ∨ 1000 < bp ∨ bq < 2 ∨ 1000 < bq ∨ 1099511627776 < d ∨ 1099511627776 < t) :
    PyKh298.meet ap aq bp bq d t = [-22] := by
  show [(Kh298.doing (.meet ⟨ap.toNat, aq.toNat⟩ ⟨bp.toNat, bq.toNat⟩ d.toNat t.toNat)).value] = _
  unfold Kh298.doing
  have e : (Kh298.ok ⟨ap.toNat, aq.toNat⟩ = false ∨ Kh298.ok ⟨bp.toNat, bq.toNat⟩ = false ∨ Kh298.FAR < d.toNat ∨ Kh298.FAR < t.toNat) := by
    unfold Kh298.ok Kh298.FAR
    simp
    omega
  simp only [e, if_true]
  rfl
theorem meet_due {ap aq bp bq d t : Int} (h1 : 2 ≤ ap) (h2 : ap ≤ 1000) (h3 : 2 ≤ aq) (h4 : aq ≤ 1000) (h5 : 2 ≤ bp) (h6 : bp ≤ 1000) (h7 : 2 ≤ bq) (h8 : bq ≤ 1000)
    (h9 : 0 ≤ d) (h10 : d ≤ 1099511627776) (h11 : 0 ≤ t) (h12 : t ≤ 1099511627776) :
    PyKh298.meet ap aq bp bq d t = [(Kh298.told (Kh298.meet ⟨ap.toNat, aq.toNat⟩ ⟨bp.toNat, bq.toNat⟩ d.toNat t.toNat)).value] := by
  show [(Kh298.doing (.meet ⟨ap.toNat, aq.toNat⟩ ⟨bp.toNat, bq.toNat⟩ d.toNat t.toNat)).value] = _
  unfold Kh298.doing
  have e : ¬ (Kh298.ok ⟨ap.toNat, aq.toNat⟩ = false ∨ Kh298.ok ⟨bp.toNat, bq.toNat⟩ = false ∨ Kh298.FAR < d.toNat ∨ Kh298.FAR < t.toNat) := by
    unfold Kh298.ok Kh298.FAR
    simp
    omega
  simp only [e, if_false]
theorem within_refused {ap aq bp bq : Int} (h0 : 0 ≤ ap) (h1 : 0 ≤ aq) (h2 : 0 ≤ bp) (h3 : 0 ≤ bq)
    (h : ap < 2 ∨ 1000 < ap ∨ aq < 2 ∨ 1000 < aq ∨ bp < 2 ∨ 1000 < bp ∨ bq < 2 ∨ 1000 < bq) :
    PyKh298.within ap aq bp bq = [-22] := by
  show [(Kh298.doing (.within ⟨ap.toNat, aq.toNat⟩ ⟨bp.toNat, bq.toNat⟩)).value] = _
  unfold Kh298.doing
  have e : (Kh298.ok ⟨ap.toNat, aq.toNat⟩ = false ∨ Kh298.ok ⟨bp.toNat, bq.toNat⟩ = false) := by
    unfold Kh298.ok
    simp
    omega
  simp only [e, if_true]
  rfl
/-- a product, if the two have no divisor in common but 1 -/
def prodOf (x y : Nat) : Option Nat := if Nat.gcd x y = 1 then some (x * y) else none
theorem within_due {ap aq bp bq : Int} (h1 : 2 ≤ ap) (h2 : ap ≤ 1000) (h3 : 2 ≤ aq) (h4 : aq ≤ 1000) (h5 : 2 ≤ bp) (h6 : bp ≤ 1000) (h7 : 2 ≤ bq) (h8 : bq ≤ 1000) :
    PyKh298.within ap aq bp bq = [(Kh298.told (lesser (lesser (lesser (prodOf ap.toNat bp.toNat) (prodOf ap.toNat bq.toNat)) (prodOf aq.toNat bp.toNat)) (prodOf aq.toNat bq.toNat))).value] := by
  show [(Kh298.doing (.within ⟨ap.toNat, aq.toNat⟩ ⟨bp.toNat, bq.toNat⟩)).value] = _
  unfold Kh298.doing
  have e : ¬ (Kh298.ok ⟨ap.toNat, aq.toNat⟩ = false ∨ Kh298.ok ⟨bp.toNat, bq.toNat⟩ = false) := by
    unfold Kh298.ok
    simp
    omega
  simp only [e, if_false]
  unfold Kh298.within
  simp only [List.map_cons, List.map_nil]
  rw [least4]
  rfl
theorem many_refused {ap aq n : Int} (h0 : 0 ≤ ap) (h1 : 0 ≤ aq) (h2 : 0 ≤ n) (h : ap < 2 ∨ 1000 < ap ∨ aq < 2 ∨ 1000 < aq ∨ 1099511627776 < n) :
    PyKh298.many ap aq n = [-22] := by
  show [(Kh298.doing (.many ⟨ap.toNat, aq.toNat⟩ n.toNat)).value] = _
  unfold Kh298.doing
  have e : (Kh298.ok ⟨ap.toNat, aq.toNat⟩ = false ∨ Kh298.FAR < n.toNat) := by
    unfold Kh298.ok Kh298.FAR
    simp
    omega
  simp only [e, if_true]
  rfl
theorem many_due {ap aq n : Int} (h1 : 2 ≤ ap) (h2 : ap ≤ 1000) (h3 : 2 ≤ aq) (h4 : aq ≤ 1000) (h5 : 0 ≤ n) (h6 : n ≤ 1099511627776) :
    PyKh298.many ap aq n = [((Kh298.up n.toNat ap.toNat + Kh298.up n.toNat aq.toNat - Kh298.up n.toNat (Nat.lcm ap.toNat aq.toNat) : Nat) : Int)] := by
  show [(Kh298.doing (.many ⟨ap.toNat, aq.toNat⟩ n.toNat)).value] = _
  unfold Kh298.doing
  have e : ¬ (Kh298.ok ⟨ap.toNat, aq.toNat⟩ = false ∨ Kh298.FAR < n.toNat) := by
    unfold Kh298.ok Kh298.FAR
    simp
    omega
  simp only [e, if_false]
  rfl
end My
namespace My
/-- one turn of Euclid's, by Python's remainder -/
theorem gcd_turn {a b : Int} (ha : 0 ≤ a) (hb : 0 < b) : Nat.gcd b.toNat (Int.fmod a b).toNat = Nat.gcd a.toNat b.toNat := by
  obtain ⟨m, rfl⟩ := Int.eq_ofNat_of_zero_le ha
  obtain ⟨n, rfl⟩ := Int.eq_ofNat_of_zero_le (Int.le_of_lt hb)
  rw [Int.fmod_eq_emod_of_nonneg _ (Int.le_of_lt hb)]
  have e : ((m : Int) % (n : Int)).toNat = m % n := by
    rw [← Int.natCast_emod]; rfl
  rw [e]
  show Nat.gcd n (m % n) = Nat.gcd m n
  rw [Nat.gcd_comm n (m % n), ← Nat.gcd_rec n m, Nat.gcd_comm]
theorem fmod_range {a b : Int} (hb : 0 < b) : 0 ≤ Int.fmod a b ∧ Int.fmod a b < b := ⟨Int.fmod_nonneg_of_pos a hb, Int.fmod_lt_of_pos a hb⟩
theorem fmod_nat {a b : Int} (ha : 0 ≤ a) (hb : 0 < b) : (Int.fmod a b).toNat = a.toNat % b.toNat := by
  obtain ⟨m, rfl⟩ := Int.eq_ofNat_of_zero_le ha
  obtain ⟨n, rfl⟩ := Int.eq_ofNat_of_zero_le (Int.le_of_lt hb)
  rw [Int.fmod_eq_emod_of_nonneg _ (by omega), ← Int.natCast_emod]; rfl
theorem fdiv_nat {a b : Int} (ha : 0 ≤ a) (hb : 0 < b) : (Int.fdiv a b) = ((a.toNat / b.toNat : Nat) : Int) := by
  obtain ⟨m, rfl⟩ := Int.eq_ofNat_of_zero_le ha
  obtain ⟨n, rfl⟩ := Int.eq_ofNat_of_zero_le (Int.le_of_lt hb)
  rw [Int.fdiv_eq_ediv_of_nonneg _ (by omega), ← Int.natCast_ediv]; rfl
/-- the number of multiples of k below n, in the three ways that it's written -/
theorem up_is {n k : Int} (hn : 0 ≤ n) (hk : 0 < k) : Int.fdiv (n + k - 1) k = ((Kh298.up n.toNat k.toNat : Nat) : Int) := by
  unfold Kh298.up
  rw [fdiv_nat (by omega) hk]
  have e : (n + k - 1).toNat = n.toNat + k.toNat - 1 := by omega
  rw [e]
theorem up_is' {n k : Int} (hn : 0 ≤ n) (hk : 0 < k) : Int.fdiv (n - 1) k + 1 = ((Kh298.up n.toNat k.toNat : Nat) : Int) := by
  rw [← up_is hn hk]
  rw [Int.fdiv_eq_ediv_of_nonneg _ (by omega), Int.fdiv_eq_ediv_of_nonneg _ (by omega)]
  have e : n + k - 1 = n - 1 + k := by omega
  rw [e, Int.add_ediv_of_dvd_right (Int.dvd_refl k), Int.ediv_self (by omega)]
end My
namespace My
/-- what's told of one telling -/
def val (o : Option Nat) : Int := (Kh298.told o).value
theorem val_some (s : Nat) : val (some s) = (s : Int) := rfl
theorem val_none : val none = -2 := rfl
/-- one of a's numbers and one of b's: the first slot from t on -/
def fcs (number other d t : Int) : Int := val (Kh298.meetOf number.toNat other.toNat d.toNat t.toNat)
abbrev hit (other d v : Int) : Prop := Int.fmod (v + d) other = 0
/-- where the walk begins -/
def start (number t : Int) : Int := Int.fdiv (t + number - 1) number * number
theorem start_nat {number t : Int} (h1 : 0 < number) (h2 : 0 ≤ t) : start number t = ((upTo t.toNat number.toNat : Nat) : Int) := fdiv_up h2 h1
theorem start_range {number t : Int} (h1 : 0 < number) (h2 : 0 ≤ t) : t ≤ start number t ∧ start number t < t + number := by
  rw [start_nat h1 h2]
  have := upTo_ge (t := t.toNat) (x := number.toNat) (by omega)
  omega
theorem hit_nat {other d v : Int} (h1 : 0 < other) (h2 : 0 ≤ d) (h3 : 0 ≤ v) : hit other d v ↔ (v.toNat + d.toNat) % other.toNat = 0 := by
  unfold hit
  have e := fmod_nat (a := v + d) (b := other) (by omega) h1
  have r := fmod_range (a := v + d) h1
  have e2 : (v + d).toNat = v.toNat + d.toNat := by omega
  rw [e2] at e
  rw [← e]
  omega
theorem mult_of {x t u : Nat} (hx : 0 < x) (h : t ≤ u) (hu : u % x = 0) : ∃ j, u = upTo t x + j * x := by
  have h1 := upTo_least hx h hu
  have h2 := upTo_mod t x
  obtain ⟨a, ha⟩ := Nat.dvd_of_mod_eq_zero hu
  obtain ⟨b, hb⟩ := Nat.dvd_of_mod_eq_zero h2
  have hab : b ≤ a := by
    rw [ha, hb] at h1
    exact Nat.le_of_mul_le_mul_left h1 hx
  refine ⟨a - b, ?_⟩
  rw [ha, hb, Nat.mul_comm (a - b) x, ← Nat.mul_add]
  congr 1
  omega
theorem at_nat {a c : Nat} (i : Nat) : (a : Int) + (i : Int) * (c : Int) = ((a + i * c : Nat) : Int) := by
  rw [Int.natCast_add, Int.natCast_mul]
theorem fcs_found {number other d t k : Int} {i : Nat} (h1 : 0 < number) (h2 : 0 < other) (h3 : 0 ≤ d) (h4 : 0 ≤ t)
    (hk : k = start number t + (i : Int) * number) (h5 : hit other d k) (h6 : ∀ j : Nat, j < i → ¬ hit other d (start number t + (j : Int) * number)) : k = fcs number other d t := by
  rw [start_nat h1 h4] at hk h6
  obtain ⟨x, rfl⟩ := Int.eq_ofNat_of_zero_le (Int.le_of_lt h1)
  obtain ⟨t, rfl⟩ := Int.eq_ofNat_of_zero_le h4
  obtain ⟨d, rfl⟩ := Int.eq_ofNat_of_zero_le h3
  obtain ⟨y, rfl⟩ := Int.eq_ofNat_of_zero_le (Int.le_of_lt h2)
  have hx : 0 < x := by omega
  simp only [Int.toNat_natCast] at hk h6
  rw [at_nat] at hk
  subst hk
  have g1 := upTo_ge (t := t) hx
  unfold fcs
  simp only [Int.toNat_natCast]
  rw [meetOf_found (s := upTo t x + i * x) hx (by omega) (by omega) ?_ ?_]
  · rfl
  · refine ⟨by rw [Nat.add_mul_mod_self_right]; exact upTo_mod t x, ?_⟩
    exact (hit_nat (v := ((upTo t x + i * x : Nat) : Int)) h2 h3 (by omega)).mp h5
  · intro u a b c
    obtain ⟨j, rfl⟩ := mult_of hx a c.1
    have hj : j < i := by
      have : j * x < i * x := by omega
      exact Nat.lt_of_mul_lt_mul_right this
    have q := h6 j hj
    rw [at_nat] at q
    exact q ((hit_nat h2 h3 (by omega)).mpr c.2)
theorem fcs_never {number other d t : Int} (h1 : 0 < number) (h2 : 0 < other) (h3 : 0 ≤ d) (h4 : 0 ≤ t)
    (h6 : ∀ j : Nat, j < other.toNat → ¬ hit other d (start number t + (j : Int) * number)) : -2 = fcs number other d t := by
  rw [start_nat h1 h4] at h6
  obtain ⟨x, rfl⟩ := Int.eq_ofNat_of_zero_le (Int.le_of_lt h1)
  obtain ⟨t, rfl⟩ := Int.eq_ofNat_of_zero_le h4
  obtain ⟨d, rfl⟩ := Int.eq_ofNat_of_zero_le h3
  obtain ⟨y, rfl⟩ := Int.eq_ofNat_of_zero_le (Int.le_of_lt h2)
  have hx : 0 < x := by omega
  have hy : 0 < y := by omega
  simp only [Int.toNat_natCast] at h6
  unfold fcs
  simp only [Int.toNat_natCast]
  rw [meetOf_never hx hy ?_]
  · rfl
  · intro u a c
    obtain ⟨j, rfl⟩ := mult_of hx a c.1
    have q := h6 (j % y) (Nat.mod_lt _ hy)
    rw [at_nat] at q
    refine q ((hit_nat h2 h3 (by omega)).mpr ?_)
    simp only [Int.toNat_natCast]
    have c2 := c.2
    have e : upTo t x + j * x + d = upTo t x + (j % y) * x + d + y * (j / y * x) := by
      have e1 : j * x = (j % y) * x + y * (j / y * x) := by
        conv => lhs; rw [← Nat.mod_add_div j y]
        rw [Nat.add_mul, Nat.mul_assoc]
      omega
    rw [e, Nat.add_mul_mod_self_left] at c2
    exact c2
/-- a telling is -2, or it's from t on -/
theorem fcs_either (number other d t : Int) : fcs number other d t = -2 ∨ 0 ≤ fcs number other d t := by
  unfold fcs
  cases Kh298.meetOf number.toNat other.toNat d.toNat t.toNat with
  | none => exact Or.inl rfl
  | some s => right; rw [val_some]; omega
theorem some_val {o : Option Nat} (h : val o ≠ -2) : ∃ s : Nat, o = some s ∧ val o = (s : Int) := by
  cases o with
  | none => exact absurd rfl h
  | some s => exact ⟨s, rfl, rfl⟩
theorem notBefore_val {o : Option Nat} {M : Nat} (h : val o = -2 ∨ (M : Int) ≤ val o) : NotBefore M o := by
  intro s e
  subst e
  rw [val_some] at h
  omega
/-- the least of four, by what each tells -/
theorem tell4 {a b c e : Option Nat} {M : Int} (h1 : val a = -2 ∨ M ≤ val a) (h2 : val b = -2 ∨ M ≤ val b) (h3 : val c = -2 ∨ M ≤ val c) (h4 : val e = -2 ∨ M ≤ val e)
    (hm : (M = val a ∧ val a ≠ -2) ∨ (M = val b ∧ val b ≠ -2) ∨ (M = val c ∧ val c ≠ -2) ∨ (M = val e ∧ val e ≠ -2)) : val (Kh298.least [a, b, c, e]) = M := by
  have hM : ∃ n : Nat, M = (n : Int) := by
    rcases hm with ⟨e1, e2⟩ | ⟨e1, e2⟩ | ⟨e1, e2⟩ | ⟨e1, e2⟩ <;>
      (obtain ⟨s, _, e3⟩ := some_val e2; exact ⟨s, e1.trans e3⟩)
  obtain ⟨n, rfl⟩ := hM
  have big : ∀ {o : Option Nat}, (n : Int) = val o → val o ≠ -2 → o = some n := by
    intro o e1 e2
    obtain ⟨s, e3, e4⟩ := some_val e2
    rw [e4] at e1
    rw [e3]
    congr 1
    omega
  rw [least4_is (notBefore_val h1) (notBefore_val h2) (notBefore_val h3) (notBefore_val h4) (u := n) ?_]
  · rfl
  · rcases hm with ⟨e1, e2⟩ | ⟨e1, e2⟩ | ⟨e1, e2⟩ | ⟨e1, e2⟩
    · exact Or.inl (big e1 e2)
    · exact Or.inr (Or.inl (big e1 e2))
    · exact Or.inr (Or.inr (Or.inl (big e1 e2)))
    · exact Or.inr (Or.inr (Or.inr (big e1 e2)))
theorem none_val {o : Option Nat} (h : val o = -2) : o = none := by
  cases o with
  | none => rfl
  | some s => rw [val_some] at h; omega
theorem tell0 {a b c e : Option Nat} (h1 : val a = -2) (h2 : val b = -2) (h3 : val c = -2) (h4 : val e = -2) : val (Kh298.least [a, b, c, e]) = -2 := by
  rw [none_val h1, none_val h2, none_val h3, none_val h4]
  rfl
theorem meet_told {ap aq bp bq d t M : Int} (h1 : 2 ≤ ap) (h2 : ap ≤ 1000) (h3 : 2 ≤ aq) (h4 : aq ≤ 1000) (h5 : 2 ≤ bp) (h6 : bp ≤ 1000) (h7 : 2 ≤ bq) (h8 : bq ≤ 1000)
    (h9 : 0 ≤ d) (h10 : d ≤ 1099511627776) (h11 : 0 ≤ t) (h12 : t ≤ 1099511627776)
    (g1 : fcs ap bp d t = -2 ∨ M ≤ fcs ap bp d t) (g2 : fcs ap bq d t = -2 ∨ M ≤ fcs ap bq d t) (g3 : fcs aq bp d t = -2 ∨ M ≤ fcs aq bp d t) (g4 : fcs aq bq d t = -2 ∨ M ≤ fcs aq bq d t)
    (hm : (M = fcs ap bp d t ∧ fcs ap bp d t ≠ -2) ∨ (M = fcs ap bq d t ∧ fcs ap bq d t ≠ -2) ∨ (M = fcs aq bp d t ∧ fcs aq bp d t ≠ -2) ∨ (M = fcs aq bq d t ∧ fcs aq bq d t ≠ -2)) :
    PyKh298.meet ap aq bp bq d t = [M] := by
  rw [meet_due h1 h2 h3 h4 h5 h6 h7 h8 h9 h10 h11 h12]
  congr 1
  exact tell4 g1 g2 g3 g4 hm
theorem meet_none {ap aq bp bq d t : Int} (h1 : 2 ≤ ap) (h2 : ap ≤ 1000) (h3 : 2 ≤ aq) (h4 : aq ≤ 1000) (h5 : 2 ≤ bp) (h6 : bp ≤ 1000) (h7 : 2 ≤ bq) (h8 : bq ≤ 1000)
    (h9 : 0 ≤ d) (h10 : d ≤ 1099511627776) (h11 : 0 ≤ t) (h12 : t ≤ 1099511627776)
    (g1 : fcs ap bp d t = -2) (g2 : fcs ap bq d t = -2) (g3 : fcs aq bp d t = -2) (g4 : fcs aq bq d t = -2) :
    PyKh298.meet ap aq bp bq d t = [-2] := by
  rw [meet_due h1 h2 h3 h4 h5 h6 h7 h8 h9 h10 h11 h12]
  congr 1
  exact tell0 g1 g2 g3 g4
end My
namespace My
/-- the greatest common divisor, by whole numbers -/
def gcdI (a b : Int) : Int := ((Nat.gcd a.toNat b.toNat : Nat) : Int)
theorem gcdI_zero {a b : Int} (ha : 0 ≤ a) (hb : b = 0) : a = gcdI a b := by
  subst hb
  unfold gcdI
  rw [show (0 : Int).toNat = 0 from rfl, Nat.gcd_zero_right]
  omega
theorem gcdI_turn {a b : Int} (ha : 0 ≤ a) (hb : 0 < b) : gcdI b (Int.fmod a b) = gcdI a b := by
  unfold gcdI
  rw [gcd_turn ha hb]
theorem gcdI_comm (a b : Int) : gcdI a b = gcdI b a := by
  unfold gcdI; rw [Nat.gcd_comm]
theorem gcdI_range {a b : Int} (ha : 0 < a) : 0 < gcdI a b ∧ gcdI a b ≤ a := by
  unfold gcdI
  have h1 := Nat.gcd_pos_of_pos_left b.toNat (show 0 < a.toNat by omega)
  have h2 := Nat.gcd_le_left b.toNat (show 0 < a.toNat by omega)
  omega
/-- a loop of Euclid's: where it began, where it is -/
structure Euclid (a₀ b₀ a b : Int) : Prop where
  lo : 0 ≤ a ∧ 0 ≤ b
  eq : gcdI a b = gcdI a₀ b₀
theorem euclid0 {a b : Int} (ha : 0 ≤ a) (hb : 0 ≤ b) : Euclid a b a b := ⟨⟨ha, hb⟩, rfl⟩
theorem euclid1 {a₀ b₀ a b : Int} (h : Euclid a₀ b₀ a b) (hb : b ≠ 0) : Euclid a₀ b₀ b (Int.fmod a b) := by
  obtain ⟨⟨h1, h2⟩, h3⟩ := h
  have r := fmod_range (a := a) (b := b) (by omega)
  exact ⟨⟨h2, r.1⟩, (gcdI_turn h1 (by omega)).trans h3⟩
theorem euclid_less {a₀ b₀ a b : Int} (h : Euclid a₀ b₀ a b) (hb : b ≠ 0) : (Int.fmod a b).toNat < b.toNat := by
  have h2 := h.lo.2
  have r := fmod_range (a := a) (b := b) (by omega)
  omega
theorem euclid_end {a₀ b₀ a b : Int} (h : Euclid a₀ b₀ a b) (hb : b = 0) : a = gcdI a₀ b₀ := (gcdI_zero h.lo.1 hb).trans h.eq
/-- what's told of a pair -/
theorem val_prodOf {x y : Int} (hx : 0 ≤ x) (hy : 0 ≤ y) : val (prodOf x.toNat y.toNat) = if gcdI x y = 1 then x * y else -2 := by
  unfold prodOf gcdI
  by_cases c : Nat.gcd x.toNat y.toNat = 1
  · rw [if_pos c, if_pos (by omega), val_some, Int.natCast_mul]
    congr 1 <;> omega
  · rw [if_neg c, if_neg (by omega), val_none]
theorem pos_prod {x y : Int} (hx : 2 ≤ x) (hy : 2 ≤ y) : 0 < x * y := Int.mul_pos (by omega) (by omega)
theorem within_told {ap aq bp bq M : Int} (h1 : 2 ≤ ap) (h2 : ap ≤ 1000) (h3 : 2 ≤ aq) (h4 : aq ≤ 1000) (h5 : 2 ≤ bp) (h6 : bp ≤ 1000) (h7 : 2 ≤ bq) (h8 : bq ≤ 1000)
    (g1 : gcdI ap bp ≠ 1 ∨ M ≤ ap * bp) (g2 : gcdI ap bq ≠ 1 ∨ M ≤ ap * bq) (g3 : gcdI aq bp ≠ 1 ∨ M ≤ aq * bp) (g4 : gcdI aq bq ≠ 1 ∨ M ≤ aq * bq)
    (hm : (M = ap * bp ∧ gcdI ap bp = 1) ∨ (M = ap * bq ∧ gcdI ap bq = 1) ∨ (M = aq * bp ∧ gcdI aq bp = 1) ∨ (M = aq * bq ∧ gcdI aq bq = 1)) :
    PyKh298.within ap aq bp bq = [M] := by
  rw [within_due h1 h2 h3 h4 h5 h6 h7 h8, ← least4]
  congr 1
  have p1 := pos_prod h1 h5
  have p2 := pos_prod h1 h7
  have p3 := pos_prod h3 h5
  have p4 := pos_prod h3 h7
  have side : ∀ {x y : Int}, 2 ≤ x → 2 ≤ y → (gcdI x y ≠ 1 ∨ M ≤ x * y) → (val (prodOf x.toNat y.toNat) = -2 ∨ M ≤ val (prodOf x.toNat y.toNat)) := by
    intro x y hx hy h
    rw [val_prodOf (by omega) (by omega)]
    by_cases c : gcdI x y = 1
    · rw [if_pos c]
      exact Or.inr (h.resolve_left (fun n => n c))
    · rw [if_neg c]
      exact Or.inl rfl
  have this : ∀ {x y : Int}, 2 ≤ x → 2 ≤ y → M = x * y ∧ gcdI x y = 1 → (M = val (prodOf x.toNat y.toNat) ∧ val (prodOf x.toNat y.toNat) ≠ -2) := by
    intro x y hx hy h
    have p := pos_prod hx hy
    rw [val_prodOf (by omega) (by omega), if_pos h.2]
    exact ⟨h.1, by omega⟩
  refine tell4 (side h1 h5 g1) (side h1 h7 g2) (side h3 h5 g3) (side h3 h7 g4) ?_
  rcases hm with h | h | h | h
  · exact Or.inl (this h1 h5 h)
  · exact Or.inr (Or.inl (this h1 h7 h))
  · exact Or.inr (Or.inr (Or.inl (this h3 h5 h)))
  · exact Or.inr (Or.inr (Or.inr (this h3 h7 h)))
theorem within_none {ap aq bp bq : Int} (h1 : 2 ≤ ap) (h2 : ap ≤ 1000) (h3 : 2 ≤ aq) (h4 : aq ≤ 1000) (h5 : 2 ≤ bp) (h6 : bp ≤ 1000) (h7 : 2 ≤ bq) (h8 : bq ≤ 1000)
    (g1 : gcdI ap bp ≠ 1) (g2 : gcdI ap bq ≠ 1) (g3 : gcdI aq bp ≠ 1) (g4 : gcdI aq bq ≠ 1) : PyKh298.within ap aq bp bq = [-2] := by
  rw [within_due h1 h2 h3 h4 h5 h6 h7 h8, ← least4]
  congr 1
  have side : ∀ {x y : Int}, 2 ≤ x → 2 ≤ y → gcdI x y ≠ 1 → val (prodOf x.toNat y.toNat) = -2 := by
    intro x y hx hy h
    rw [val_prodOf (by omega) (by omega), if_neg h]
  exact tell0 (side h1 h5 g1) (side h1 h7 g2) (side h3 h5 g3) (side h3 h7 g4)
end My
namespace My
/-- the least common multiple, by whole numbers -/
def lcmI (a b : Int) : Int := ((Nat.lcm a.toNat b.toNat : Nat) : Int)
/-- how many multiples of k lie below n -/
def upI (n k : Int) : Int := ((Kh298.up n.toNat k.toNat : Nat) : Int)
theorem up_less {n p l : Nat} (hp : 0 < p) (h : p ≤ l) : Kh298.up n l ≤ Kh298.up n p := by
  unfold Kh298.up
  have a := (upTo_ge (t := n) hp).1
  unfold upTo at a
  generalize (n + p - 1) / p = q at *
  have b : q * p ≤ q * l := Nat.mul_le_mul_left q h
  have c : n + l - 1 < (q + 1) * l := by rw [Nat.add_mul, Nat.one_mul]; omega
  have e := Nat.div_lt_of_lt_mul (m := n + l - 1) (n := l) (k := q + 1) (by rw [Nat.mul_comm]; exact c)
  omega
theorem lcm_ge {p q : Nat} (hp : 0 < p) (hq : 0 < q) : p ≤ Nat.lcm p q := Nat.le_of_dvd (Nat.lcm_pos hp hq) (Nat.dvd_lcm_left p q)
theorem many_told {ap aq n : Int} (h1 : 2 ≤ ap) (h2 : ap ≤ 1000) (h3 : 2 ≤ aq) (h4 : aq ≤ 1000) (h5 : 0 ≤ n) (h6 : n ≤ 1099511627776) :
    PyKh298.many ap aq n = [upI n ap + upI n aq - upI n (lcmI ap aq)] := by
  rw [many_due h1 h2 h3 h4 h5 h6]
  congr 1
  unfold upI lcmI
  rw [Int.toNat_natCast]
  have := up_less (n := n.toNat) (p := ap.toNat) (l := Nat.lcm ap.toNat aq.toNat) (by omega) (lcm_ge (by omega) (by omega))
  omega
/-- the ways in which a program may write the least common multiple -/
theorem lcm_a {a b : Int} (ha : 0 < a) (hb : 0 < b) : Int.fdiv (a * b) (gcdI a b) = lcmI a b := by
  have g := gcdI_range (b := b) ha
  rw [fdiv_nat (Int.mul_nonneg (by omega) (by omega)) g.1]
  unfold gcdI lcmI Nat.lcm
  obtain ⟨m, rfl⟩ := Int.eq_ofNat_of_zero_le (Int.le_of_lt ha)
  obtain ⟨n, rfl⟩ := Int.eq_ofNat_of_zero_le (Int.le_of_lt hb)
  rw [← Int.natCast_mul]
  simp only [Int.toNat_natCast]
theorem lcm_b {a b : Int} (ha : 0 < a) (hb : 0 < b) : Int.fdiv a (gcdI a b) * b = lcmI a b := by
  have g := gcdI_range (b := b) ha
  rw [fdiv_nat (by omega) g.1]
  unfold gcdI lcmI Nat.lcm
  obtain ⟨m, rfl⟩ := Int.eq_ofNat_of_zero_le (Int.le_of_lt ha)
  obtain ⟨n, rfl⟩ := Int.eq_ofNat_of_zero_le (Int.le_of_lt hb)
  simp only [Int.toNat_natCast]
  rw [← Int.natCast_mul, Nat.div_mul_right_comm (Nat.gcd_dvd_left m n)]
theorem lcm_c {a b : Int} (ha : 0 < a) (hb : 0 < b) : a * Int.fdiv b (gcdI a b) = lcmI a b := by
  rw [gcdI_comm, Int.mul_comm, lcm_b hb ha]
  unfold lcmI
  rw [Nat.lcm_comm]
theorem lcmI_range {a b : Int} (ha : 2 ≤ a) (ha' : a ≤ 1000) (hb : 2 ≤ b) (hb' : b ≤ 1000) : 0 < lcmI a b ∧ lcmI a b ≤ 1000000 := by
  unfold lcmI
  have h1 := Nat.lcm_pos (show 0 < a.toNat by omega) (show 0 < b.toNat by omega)
  have h2 : Nat.lcm a.toNat b.toNat ≤ a.toNat * b.toNat := Nat.le_of_dvd (Nat.mul_pos (by omega) (by omega)) (Nat.lcm_dvd (Nat.dvd_mul_right _ _) (Nat.dvd_mul_left _ _))
  have h3 := Nat.mul_le_mul (show a.toNat ≤ 1000 by omega) (show b.toNat ≤ 1000 by omega)
  omega
/-- the ways in which a program may write the number of multiples below n -/
theorem up_a {n k : Int} (hn : 0 ≤ n) (hk : 0 < k) : Int.fdiv (n + k - 1) k = upI n k := up_is hn hk
theorem up_b {n k : Int} (hn : 0 ≤ n) (hk : 0 < k) : Int.fdiv (n - 1) k + 1 = upI n k := up_is' hn hk
theorem up_c {n k : Int} (hn : 0 ≤ n) (hk : 0 < k) : Int.fdiv (n + (k - 1)) k = upI n k := by rw [← up_a hn hk]; congr 1; omega
theorem up_d {n k : Int} (hn : 0 ≤ n) (hk : 0 < k) : -(Int.fdiv (-n) k) = upI n k := by
  rw [← up_a hn hk]
  have e1 := Int.fdiv_eq_ediv_of_nonneg (-n) (Int.le_of_lt hk)
  have e2 := Int.fdiv_eq_ediv_of_nonneg (n + k - 1) (Int.le_of_lt hk)
  rw [e1, e2]
  have a1 := Int.mul_ediv_add_emod (-n) k
  have a2 := Int.emod_nonneg (-n) (show k ≠ 0 by omega)
  have a3 := Int.emod_lt_of_pos (-n) hk
  generalize (-n) / k = q at *
  generalize (-n) % k = r at *
  have e : n + k - 1 = (k - 1 - r) + (-q) * k := by
    rw [Int.neg_mul, Int.mul_comm q k]
    omega
  have f := Int.add_mul_ediv_right (k - 1 - r) (-q) (show k ≠ 0 by omega)
  have z := Int.ediv_eq_zero_of_lt (show 0 ≤ k - 1 - r by omega) (show k - 1 - r < k by omega)
  rw [e, f, z]
  omega
theorem up_zero {k : Int} (hk : 0 < k) : (0 : Int) = upI 0 k := by
  rw [← up_a (Int.le_refl 0) hk, Int.fdiv_eq_ediv_of_nonneg _ (by omega), Int.ediv_eq_zero_of_lt (by omega) (by omega)]
end My
namespace My
section
open PySem PyProof.Rows
variable {prog : Program} {w : World} {A : Around} {s : Shared} {x y : Int} {t u : Tok} {Q E : Value → Shared → Prop}
/-- a step: // by a number of which a lemma of one's own says that it is above 0, and how great it is -/
theorem stepDiv (hy : 0 < y ∧ y ≤ 1000000) (h : Q (.int (Int.fdiv x y) s.toks) { s with toks := s.toks + 1 }) : wpAny (model prog w) A (binaryOp .FloorDiv (.int x t) (.int y u)) Q E s :=
  PyProof.Rows.floordiv_int (by omega) h (Or.inl (PyProof.noPylong_small (by omega)))
end
theorem common_b {a b : Int} (h1 : 2 ≤ a) (h2 : a ≤ 1000) (h3 : 2 ≤ b) (h4 : b ≤ 1000) : 0 < Int.fdiv a (gcdI a b) * b ∧ Int.fdiv a (gcdI a b) * b ≤ 1000000 := by
  rw [lcm_b (by omega) (by omega)]; exact lcmI_range h1 h2 h3 h4
theorem common_a {a b : Int} (h1 : 2 ≤ a) (h2 : a ≤ 1000) (h3 : 2 ≤ b) (h4 : b ≤ 1000) : 0 < Int.fdiv (a * b) (gcdI a b) ∧ Int.fdiv (a * b) (gcdI a b) ≤ 1000000 := by
  rw [lcm_a (by omega) (by omega)]; exact lcmI_range h1 h2 h3 h4
theorem common_c {a b : Int} (h1 : 2 ≤ a) (h2 : a ≤ 1000) (h3 : 2 ≤ b) (h4 : b ≤ 1000) : 0 < a * Int.fdiv b (gcdI a b) ∧ a * Int.fdiv b (gcdI a b) ≤ 1000000 := by
  rw [lcm_c (by omega) (by omega)]; exact lcmI_range h1 h2 h3 h4
end My
namespace My
theorem said : PySem.Challenge.rw_wakeslots_s04_many.wellSaid = true := by decide +kernel
theorem bounds {a b c : Int} (w : Codec.withinAll [.int 0 4294967295, .int 0 4294967295, .int 0 18446744073709551615] (a, b, c, ()) = true) : 0 ≤ a ∧ 0 ≤ b ∧ 0 ≤ c := by
  simp [Codec.withinAll, Codec.inPair, Codec.within, Codec.inInt] at w
  omega
theorem end_refused {ap aq n : Int} (hb : 0 ≤ ap ∧ 0 ≤ aq ∧ 0 ≤ n) (h : ap < 2 ∨ 1000 < ap ∨ aq < 2 ∨ 1000 < aq ∨ 1099511627776 < n) :
    ofPy (PyData.list [PyData.int (-22)]) = WData.list ((PyKh298.many ap aq n).map WData.int) := by
  refine os_list ?_
  rw [many_refused hb.1 hb.2.1 hb.2.2 h]
  rfl
theorem end_due {ap aq n v : Int} (hb : 0 ≤ ap ∧ 0 ≤ aq ∧ 0 ≤ n) (h1 : 2 ≤ ap) (h2 : ap ≤ 1000) (h3 : 2 ≤ aq) (h4 : aq ≤ 1000) (h6 : n ≤ 1099511627776)
    (hv : v = upI n ap + upI n aq - upI n (lcmI ap aq)) : ofPy (PyData.list [PyData.int v]) = WData.list ((PyKh298.many ap aq n).map WData.int) := by
  refine os_list ?_
  rw [many_told h1 h2 h3 h4 hb.2.2 h6, hv]
  rfl
theorem gcd_fact (a b : Int) : 0 < a → 0 < gcdI a b ∧ gcdI a b ≤ a := fun h => gcdI_range h
theorem same {ap aq n : Int} (hb : 0 ≤ ap ∧ 0 ≤ aq ∧ 0 ≤ n) (h1 : 2 ≤ ap) (h2 : ap ≤ 1000) (h3 : 2 ≤ aq) (h4 : aq ≤ 1000) :
    Int.fdiv (n + ap - 1) ap + Int.fdiv (n + aq - 1) aq - Int.fdiv (n + Int.fdiv (ap * aq) (gcdI ap aq) - 1) (Int.fdiv (ap * aq) (gcdI ap aq)) = upI n ap + upI n aq - upI n (lcmI ap aq) := by
  have l := lcmI_range h1 h2 h3 h4
  rw [lcm_a (by omega) (by omega), up_a hb.2.2 (by omega), up_a hb.2.2 (by omega), up_a hb.2.2 l.1]
end My
open PyProof.Rows
local macro_rules | `(tactic| walk_at "binaryOp FloorDiv int int") => `(tactic| (k_here; (with_reducible refine' My.stepDiv ?k1 ?_); (case k1 => k_dflt (first | exact My.common_b (by omega) (by omega) (by omega) (by omega) | exact My.common_a (by omega) (by omega) (by omega) (by omega) | exact My.common_c (by omega) (by omega) (by omega) (by omega)))))
set_option maxRecDepth 100000 in
set_option maxHeartbeats 8000000 in
theorem PySem.Challenge.cw_wakeslots_s04_many_holds : PySem.Challenge.rw_wakeslots_s04_many.Holds := by
  k_with "call ref" => k_call_by "greatest_common_divisor" My.gcdI (fun (a b : Int) => 0 ≤ a ∧ 0 ≤ b)
  k_with "fact greatest_common_divisor" => exact My.gcd_fact
  k_with "tree" => exact My.euclid_end (by assumption) (by omega)
  k_with "state" => first
    | exact My.euclid1 (by assumption) (by omega)
    | exact My.euclid0 (by omega) (by omega)
  k_with "measure" => exact My.euclid_less (by assumption) (by omega)
  k_with "exec While Compare cons nil" => k_while_given ["divisor!", "rest!"] (fun a₀ b₀ _ a b => My.Euclid a₀ b₀ a b) (fun _ _ _ _ b => b.toNat) "divisor" "rest"
  open_ks with [.int 2, .int 2, .int 0]
  all_goals (
    os_open My.said with a w q e
    obtain ⟨x1, x2, x3, u⟩ := a
    have e1 := os_j_int (List.cons.inj e).1
    have e2 := os_j_int (List.cons.inj (List.cons.inj e).2).1
    have e3 := os_j_int (List.cons.inj (List.cons.inj (List.cons.inj e).2).2).1
    subst e1 e2 e3
    have hb := My.bounds w
    clear w q e
    first
      | exact (My.end_refused hb (by omega)).trans rfl
      | exact (My.end_due hb (by omega) (by omega) (by omega) (by omega) (by omega) (My.same hb (by omega) (by omega) (by omega) (by omega))).trans rfl)
#print axioms PySem.Challenge.cw_wakeslots_s04_many_holds
