/-
  When the arcs of a word cross: what line.drawn and the reference's Drawn look at.
-/
import Derived.Test.YtenomnkdfiojbaaDoorRkU
import Derived.Test.YtenomnkdfiojbaaDoorArcs
namespace Go.Proofs.YtenomnkdfiojbaaDoor
open Go.RowKit

def winB (p : Int × Int) (x : Int) : Bool := decide (p.1 < x) && decide (x < p.2)
def crossB (l : List (Int × Int)) (i j : Nat) : Bool := winB (l.getD i (0, 0)) (l.getD j (0, 0)).1 != winB (l.getD i (0, 0)) (l.getD j (0, 0)).2
def tanB (l : List (Int × Int)) : Bool := (List.range l.length).any fun i => (List.range i).any fun j => crossB l i j

/-- No two arcs on one side cross. -/
def NC (n : Nat) (pos : Nat → Int) : Prop :=
  ∀ i j, i < n → j < n → i % 2 = j % 2 → i ≠ j → (Rk.Btw (pos j) (pos i) (pos (Rk.nx n true i)) ↔ Rk.Btw (pos (Rk.nx n true j)) (pos i) (pos (Rk.nx n true i)))

instance instBtw (x u v : Int) : Decidable (Rk.Btw x u v) := by unfold Rk.Btw; infer_instance

theorem nx_mod {n i : Nat} (hi : i < n) : Rk.nx n true i = (i + 1) % n := by
  unfold Rk.nx
  rw [if_pos rfl]
  split
  · rename_i h; rw [h, Nat.mod_self]
  · rw [Nat.mod_eq_of_lt (by omega)]
theorem winB_btw (a b x : Int) : winB (min a b, max a b) x = decide (Rk.Btw x a b) := by
  rw [Bool.eq_iff_iff, decide_eq_true_eq (p := Rk.Btw x a b)]
  unfold winB Rk.Btw
  rw [Bool.and_eq_true, decide_eq_true_eq, decide_eq_true_eq]
  simp only
  omega
theorem cross_false (a b c d : Int) : (winB (min a b, max a b) (min c d) != winB (min a b, max a b) (max c d)) = false ↔ (Rk.Btw c a b ↔ Rk.Btw d a b) := by
  rw [winB_btw, winB_btw, bne_eq_false_iff_eq, decide_eq_decide]
  rcases Int.le_total c d with h | h
  · rw [Int.min_eq_left h, Int.max_eq_right h]
  · rw [Int.min_eq_right h, Int.max_eq_left h]
    exact ⟨Iff.symm, Iff.symm⟩
theorem cross_sym {a b c d : Int} (h0 : a ≠ b) (h5 : c ≠ d) (h1 : a ≠ c) (h2 : a ≠ d) (h3 : b ≠ c) (h4 : b ≠ d) : (Rk.Btw c a b ↔ Rk.Btw d a b) ↔ (Rk.Btw a c d ↔ Rk.Btw b c d) := by
  unfold Rk.Btw
  rcases Int.lt_or_gt_of_ne h0 with h0 | h0 <;> rcases Int.lt_or_gt_of_ne h5 with h5 | h5 <;> rcases Int.lt_or_gt_of_ne h1 with h1 | h1 <;> rcases Int.lt_or_gt_of_ne h2 with h2 | h2 <;> rcases Int.lt_or_gt_of_ne h3 with h3 | h3 <;> rcases Int.lt_or_gt_of_ne h4 with h4 | h4 <;> omega

theorem tanB_false {l : List (Int × Int)} : tanB l = false ↔ ∀ i j, i < l.length → j < i → crossB l i j = false := by
  unfold tanB
  rw [List.any_eq_false]
  constructor
  · intro h i j hi hj
    have h1 := h i (List.mem_range.2 hi)
    rw [Bool.not_eq_true, List.any_eq_false] at h1
    have := h1 j (List.mem_range.2 hj)
    simpa using this
  · intro h i hi
    rw [Bool.not_eq_true, List.any_eq_false]
    intro j hj
    rw [h i j (List.mem_range.1 hi) (List.mem_range.1 hj)]
    simp

theorem arcsL_getD {L : List Int} {f k t : Nat} (ht : t < k) : (arcsL L f k).getD t (0, 0) = arcAt L (f + 2 * t) := by
  unfold arcsL
  rw [List.getD_eq_getElem?_getD, List.getElem?_map, List.getElem?_range ht]
  rfl

theorem arcs_nc {L : List Int} {n f : Nat} {pos : Nat → Int} (hl : L.length = n) (he : n % 2 = 0) (hf : f < 2) (hp : ∀ i, i < n → L.getD i 0 = pos i) (inj : ∀ i j, i < n → j < n → pos i = pos j → i = j) :
    tanB (arcsL L f (n / 2)) = false ↔ ∀ i j, i < n → j < n → i % 2 = f → j % 2 = f → i ≠ j → (Rk.Btw (pos j) (pos i) (pos (Rk.nx n true i)) ↔ Rk.Btw (pos (Rk.nx n true j)) (pos i) (pos (Rk.nx n true i))) := by
  have key : ∀ s t, s < n / 2 → t < n / 2 → (crossB (arcsL L f (n / 2)) s t = false ↔ (Rk.Btw (pos (f + 2 * t)) (pos (f + 2 * s)) (pos (Rk.nx n true (f + 2 * s))) ↔ Rk.Btw (pos (Rk.nx n true (f + 2 * t))) (pos (f + 2 * s)) (pos (Rk.nx n true (f + 2 * s))))) := by
    intro s t hs ht
    have e1 : f + 2 * s < n := by omega
    have e2 : f + 2 * t < n := by omega
    have e3 : (f + 2 * s + 1) % n < n := Nat.mod_lt _ (by omega)
    have e4 : (f + 2 * t + 1) % n < n := Nat.mod_lt _ (by omega)
    unfold crossB
    rw [arcsL_getD hs, arcsL_getD ht, nx_mod e1, nx_mod e2]
    unfold arcAt
    rw [hl, hp _ e1, hp _ e2, hp _ e3, hp _ e4]
    exact cross_false _ _ _ _
  rw [tanB_false]
  constructor
  · intro h i j hi hj fi fj hne
    obtain ⟨s, rfl⟩ : ∃ s, i = f + 2 * s := ⟨(i - f) / 2, by omega⟩
    obtain ⟨t, rfl⟩ : ∃ t, j = f + 2 * t := ⟨(j - f) / 2, by omega⟩
    rw [arcsL_length] at h
    rcases Nat.lt_or_gt_of_ne (show s ≠ t by omega) with hc | hc
    · have h1 := (key t s (by omega) (by omega)).1 (h t s (by omega) hc)
      have n1 : Rk.nx n true (f + 2 * s) < n := Rk.nx_lt hi
      have n2 : Rk.nx n true (f + 2 * t) < n := Rk.nx_lt hj
      have p1 := Rk.nx_par he (b := true) hi
      have p2 := Rk.nx_par he (b := true) hj
      have q : Rk.nx n true (f + 2 * s) ≠ Rk.nx n true (f + 2 * t) := fun e => hne (Rk.nx_inj hi hj true e)
      refine (cross_sym ?_ ?_ ?_ ?_ ?_ ?_).1 h1
      · intro e; have := inj _ _ hj n2 e; omega
      · intro e; have := inj _ _ hi n1 e; omega
      · intro e; have := inj _ _ hj hi e; omega
      · intro e; have := inj _ _ hj n1 e; omega
      · intro e; have := inj _ _ n2 hi e; omega
      · intro e; exact q (inj _ _ n2 n1 e).symm
    · exact (key s t (by omega) (by omega)).1 (h s t (by omega) hc)
  · intro h s t hs ht
    rw [arcsL_length] at hs
    exact (key s t hs (by omega)).2 (h _ _ (by omega) (by omega) (by omega) (by omega) (by omega))

theorem nc_iff {L : List Int} {n : Nat} {pos : Nat → Int} (hl : L.length = n) (he : n % 2 = 0) (hp : ∀ i, i < n → L.getD i 0 = pos i) (inj : ∀ i j, i < n → j < n → pos i = pos j → i = j) :
    (tanB (arcsL L 0 (n / 2)) = false ∧ tanB (arcsL L 1 (n / 2)) = false) ↔ NC n pos := by
  rw [arcs_nc hl he (by omega) hp inj, arcs_nc hl he (by omega) hp inj]
  constructor
  · rintro ⟨h0, h1⟩ i j hi hj hij hne
    rcases Nat.mod_two_eq_zero_or_one i with h | h
    · exact h0 i j hi hj h (by omega) hne
    · exact h1 i j hi hj h (by omega) hne
  · intro h
    exact ⟨fun i j hi hj fi fj hne => h i j hi hj (by omega) hne, fun i j hi hj fi fj hne => h i j hi hj (by omega) hne⟩

theorem cnt_le (f : Nat → Bool) : ∀ m, cnt f m ≤ m
  | 0 => Int.le_refl _
  | m + 1 => by have := cnt_le f m; rw [cnt]; split <;> omega
theorem Rks.bds {xs R : List Int} {n : Nat} (h : Rks xs R n) {i : Nat} (hi : i < n) : 1 ≤ gt R i ∧ gt R i ≤ n := by
  obtain ⟨h1, h2, _⟩ := h.2 i hi
  have := cnt_le (fun j => decide (gt xs j = gt xs i)) n
  omega
theorem Rks.inj {xs R : List Int} {n : Nat} (h : Rks xs R n) (hn : n ≤ 400) : ∀ i j, i < n → j < n → posOf xs R i = posOf xs R j → i = j := by
  intro i j hi hj he
  have h1 := h.bds hi
  have h2 := h.bds hj
  unfold posOf at he
  exact (h.2 j hj).2.2 i hi (by omega) (by omega)
theorem posL_getD {xs R : List Int} {n : Nat} (hl : xs.length = n) {i : Nat} (hi : i < n) : (posL xs R).getD i 0 = posOf xs R i := by
  unfold posL
  rw [List.getD_eq_getElem?_getD, List.getElem?_map, hl, List.getElem?_range hi]
  rfl
theorem posL_length (xs R : List Int) : (posL xs R).length = xs.length := by simp [posL]

/-- Whether line.drawn finds no crossing at the positions. -/
theorem ranks_nc {xs R : List Int} {n : Nat} (hl : xs.length = n) (hn : n ≤ 400) (he : n % 2 = 0) (hR : Rks xs R n) :
    (tanB (arcsL (posL xs R) 0 (n / 2)) = false ∧ tanB (arcsL (posL xs R) 1 (n / 2)) = false) ↔ NC n (posOf xs R) :=
  nc_iff (by rw [posL_length, hl]) he (fun _ hi => posL_getD hl hi) (hR.inj hn)

/-- A reduced word whose arcs don't cross is drawn. -/
theorem dr_of {xs R : List Int} {n : Nat} (hl : xs.length = n) (hn : n ≤ 400) (hr : reducedB xs = true) (hR : Rks xs R n) (hc : NC n (posOf xs R)) : Rk.Dr n (gt xs) (posOf xs R) := by
  unfold reducedB at hr
  rw [Bool.and_eq_true] at hr
  obtain ⟨hv, hcy⟩ := hr
  unfold validB at hv
  simp only [Bool.and_eq_true, decide_eq_true_eq, List.all_eq_true] at hv
  obtain ⟨⟨_, he⟩, hall⟩ := hv
  refine ⟨by rw [← hl]; exact he, fun i hi => ?_, fun i hi => ?_, fun i j hi hj hg => ?_, hR.inj hn, hc⟩
  · unfold gt
    rw [List.getD_eq_getElem?_getD, List.getElem?_eq_getElem (by omega)]
    exact hall _ (List.getElem_mem _)
  · rw [nx_mod hi]
    have h1 := cycB_true.1 hcy i (by omega)
    rw [hl] at h1
    exact h1
  · have h1 := hR.bds hi
    have h2 := hR.bds hj
    unfold posOf
    omega

/-- What line.Ranks answers. -/
def ranksM (xs : List Int) (n : Nat) : Option (List Int) :=
  match outerM xs n with
  | none => none
  | some r => if tanB (arcsL (posL xs r) 0 (n / 2)) = false ∧ tanB (arcsL (posL xs r) 1 (n / 2)) = false then some r else none

theorem red_rng {xs : List Int} (hr : reducedB xs = true) : xs.length % 2 = 0 ∧ xs.length ≤ 400 ∧ ∀ x, x ∈ xs → 0 ≤ x ∧ x ≤ 40 := by
  unfold reducedB validB at hr
  simp only [Bool.and_eq_true, decide_eq_true_eq, List.all_eq_true] at hr
  exact ⟨hr.1.1.2, hr.1.1.1.2, fun x hx => hr.1.2 x hx⟩

/-- The ranks that are returned are the only ones that draw the word. -/
theorem ranksM_iff {xs R : List Int} {n : Nat} (hl : xs.length = n) (hr : reducedB xs = true) : ranksM xs n = some R ↔ Rks xs R n ∧ NC n (posOf xs R) := by
  obtain ⟨he, hn, hrng⟩ := red_rng hr
  rw [hl] at he hn
  unfold ranksM
  constructor
  · intro h
    cases ho : outerM xs n with
    | none => rw [ho] at h; cases h
    | some r =>
      rw [ho] at h
      simp only at h
      split at h
      · rename_i hc
        injection h with h
        subst h
        have hR := outer_ranks hl hrng ho
        exact ⟨hR, (ranks_nc hl hn he hR).1 hc⟩
      · cases h
  · rintro ⟨hR, hc⟩
    rw [drawn_only hl hrng hR (dr_of hl hn hr hR hc)]
    simp only
    rw [if_pos ((ranks_nc hl hn he hR).2 hc)]

/-- What the reference's before, between and Drawn say. -/
def befB (xs R : List Int) (i j : Nat) : Bool := decide (gt xs i < gt xs j) || (decide (gt xs i = gt xs j) && decide (gt R i < gt R j))
def betB (xs R : List Int) (x a b : Nat) : Bool := (befB xs R a x && befB xs R x b) || (befB xs R b x && befB xs R x a)
def manyC (xs : List Int) (i m : Nat) : Int := cnt (fun j => decide (gt xs j = gt xs i)) m
def sameC (xs R : List Int) (i m : Nat) : Int := cnt (fun j => decide (gt xs j = gt xs i) && decide (gt R j = gt R i)) m
def okR (xs R : List Int) (n i : Nat) : Prop := 1 ≤ gt R i ∧ gt R i ≤ manyC xs i n ∧ sameC xs R i n = 1
def ncR (xs R : List Int) (n i j : Nat) : Prop := betB xs R j i ((i + 1) % n) = betB xs R ((j + 1) % n) i ((i + 1) % n)
def DrawnR (xs R : List Int) (n : Nat) : Prop := R.length = n ∧ (∀ i, i < n → okR xs R n i) ∧ ∀ i j, i < n → j < n → j % 2 = i % 2 → j ≠ i → ncR xs R n i j

theorem cnt_self {i : Nat} : ∀ {m : Nat}, cnt (fun j => decide (j = i)) m = if i < m then 1 else 0
  | 0 => by rw [cnt, if_neg (by omega)]
  | m + 1 => by
    rw [cnt, cnt_self (m := m)]
    simp only [decide_eq_true_eq]
    split <;> split <;> split <;> omega
theorem same_one {xs R : List Int} {n i : Nat} (hi : i < n) : sameC xs R i n = 1 ↔ ∀ j, j < n → gt xs j = gt xs i → gt R j = gt R i → j = i := by
  have hs : cnt (fun j => decide (j = i)) n = 1 := by rw [cnt_self, if_pos hi]
  constructor
  · intro h j hj hg hr
    by_cases e : j = i
    · exact e
    · have := cnt_strict (f := fun j => decide (j = i)) (h := fun j => decide (gt xs j = gt xs i) && decide (gt R j = gt R i)) (m := n) (fun k _ hk => by
        obtain rfl : k = i := by simpa using hk
        simp) ⟨j, hj, by simp [e], by simp [hg, hr]⟩
      unfold sameC at h
      omega
  · intro h
    unfold sameC
    rw [← hs]
    refine cnt_congr ?_
    intro j hj
    rw [Bool.eq_iff_iff, Bool.and_eq_true, decide_eq_true_eq, decide_eq_true_eq, decide_eq_true_eq]
    exact ⟨fun ⟨a, b⟩ => h j hj a b, fun e => by subst e; exact ⟨rfl, rfl⟩⟩
theorem rks_iff {xs R : List Int} {n : Nat} : Rks xs R n ↔ R.length = n ∧ ∀ i, i < n → okR xs R n i := by
  unfold Rks okR manyC
  constructor
  · rintro ⟨h1, h2⟩
    exact ⟨h1, fun i hi => ⟨(h2 i hi).1, (h2 i hi).2.1, (same_one hi).2 (h2 i hi).2.2⟩⟩
  · rintro ⟨h1, h2⟩
    exact ⟨h1, fun i hi => ⟨(h2 i hi).1, (h2 i hi).2.1, (same_one hi).1 (h2 i hi).2.2⟩⟩
theorem befB_pos {xs R : List Int} {n i j : Nat} (hn : n ≤ 400) (hR : Rks xs R n) (hi : i < n) (hj : j < n) : befB xs R i j = decide (posOf xs R i < posOf xs R j) := by
  have h1 := hR.bds hi
  have h2 := hR.bds hj
  unfold befB posOf
  rw [Bool.eq_iff_iff, Bool.or_eq_true, Bool.and_eq_true, decide_eq_true_eq, decide_eq_true_eq, decide_eq_true_eq, decide_eq_true_eq]
  omega
theorem betB_pos {xs R : List Int} {n x a b : Nat} (hn : n ≤ 400) (hR : Rks xs R n) (hx : x < n) (ha : a < n) (hb : b < n) : betB xs R x a b = decide (Rk.Btw (posOf xs R x) (posOf xs R a) (posOf xs R b)) := by
  rw [Bool.eq_iff_iff, decide_eq_true_eq (p := Rk.Btw _ _ _)]
  unfold betB Rk.Btw
  rw [befB_pos hn hR ha hx, befB_pos hn hR hx hb, befB_pos hn hR hb hx, befB_pos hn hR hx ha]
  simp only [Bool.or_eq_true, Bool.and_eq_true, decide_eq_true_eq]
theorem drawnR_iff {xs R : List Int} {n : Nat} (hn : n ≤ 400) : DrawnR xs R n ↔ Rks xs R n ∧ NC n (posOf xs R) := by
  have key : Rks xs R n → ∀ i j, i < n → j < n → (ncR xs R n i j ↔ (Rk.Btw (posOf xs R j) (posOf xs R i) (posOf xs R (Rk.nx n true i)) ↔ Rk.Btw (posOf xs R (Rk.nx n true j)) (posOf xs R i) (posOf xs R (Rk.nx n true i)))) := by
    intro hR i j hi hj
    have h1 : (i + 1) % n < n := Nat.mod_lt _ (by omega)
    have h2 : (j + 1) % n < n := Nat.mod_lt _ (by omega)
    unfold ncR
    rw [betB_pos hn hR hj hi h1, betB_pos hn hR h2 hi h1, nx_mod hi, nx_mod hj, decide_eq_decide]
  unfold DrawnR
  constructor
  · rintro ⟨h1, h2, h3⟩
    have hR := rks_iff.2 ⟨h1, h2⟩
    exact ⟨hR, fun i j hi hj hij hne => (key hR i j hi hj).1 (h3 i j hi hj hij.symm hne.symm)⟩
  · rintro ⟨hR, hc⟩
    obtain ⟨h1, h2⟩ := rks_iff.1 hR
    exact ⟨h1, h2, fun i j hi hj hij hne => (key hR i j hi hj).2 (hc i j hi hj hij.symm hne.symm)⟩

/-- The ranks that line.Ranks returns are those that the reference accepts. -/
theorem ranksM_drawn {xs R : List Int} {n : Nat} (hl : xs.length = n) (hr : reducedB xs = true) : ranksM xs n = some R ↔ DrawnR xs R n := by
  obtain ⟨_, hn, _⟩ := red_rng hr
  rw [hl] at hn
  rw [ranksM_iff hl hr, drawnR_iff hn]

end Go.Proofs.YtenomnkdfiojbaaDoor
