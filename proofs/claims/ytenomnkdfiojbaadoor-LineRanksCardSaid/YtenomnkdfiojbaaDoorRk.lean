/-
  Why the ranks of a word are the only ones: strands that do not cross lie as they lie where they part, and all part.
-/
import Derived.Test.YtenomnkdfiojbaaDoorLn
namespace Go.Proofs.YtenomnkdfiojbaaDoor.Rk

/-- The next letter, forwards or backwards. -/
def nx (n : Nat) (b : Bool) (x : Nat) : Nat :=
  if b then (if x + 1 = n then 0 else x + 1) else (if x = 0 then n - 1 else x - 1)
def it (n : Nat) (b : Bool) (x : Nat) : Nat → Nat
  | 0 => x
  | i + 1 => nx n b (it n b x i)
theorem it_add (n : Nat) (b : Bool) (x i : Nat) : ∀ j, it n b x (i + j) = it n b (it n b x i) j
  | 0 => rfl
  | j + 1 => by rw [← Nat.add_assoc, it, it, it_add n b x i j]
theorem nx_lt {n : Nat} {b : Bool} {x : Nat} (hx : x < n) : nx n b x < n := by
  unfold nx
  split <;> split <;> omega
theorem it_lt {n : Nat} {b : Bool} {x : Nat} (hx : x < n) : ∀ i, it n b x i < n
  | 0 => hx
  | i + 1 => nx_lt (it_lt hx i)
theorem nx_par {n : Nat} (he : n % 2 = 0) {b : Bool} {x : Nat} (hx : x < n) : nx n b x % 2 = (x + 1) % 2 := by
  unfold nx
  split <;> split <;> omega
theorem it_par {n : Nat} (he : n % 2 = 0) {b : Bool} {x : Nat} (hx : x < n) : ∀ i, it n b x i % 2 = (x + i) % 2
  | 0 => rfl
  | i + 1 => by
    rw [it, nx_par he (it_lt hx i)]
    have := it_par he (b := b) hx i
    omega
theorem succ_mod {n a : Nat} (hn : 0 < n) : (a + 1) % n = if a % n + 1 = n then 0 else a % n + 1 := by
  have h1 : a % n < n := Nat.mod_lt _ hn
  split
  · rename_i h
    rw [Nat.add_mod]
    rcases Nat.lt_or_ge 1 n with h2 | h2
    · rw [Nat.mod_eq_of_lt h2, h, Nat.mod_self]
    · obtain rfl : n = 1 := by omega
      simp [Nat.mod_one]
  · rename_i h
    have h2 : 1 < n := by omega
    rw [Nat.add_mod, Nat.mod_eq_of_lt h2, Nat.mod_eq_of_lt (by omega)]
theorem it_true {n x : Nat} (hx : x < n) : ∀ i, it n true x i = (x + i) % n
  | 0 => (Nat.mod_eq_of_lt hx).symm
  | i + 1 => by
    rw [it, it_true hx i, ← Nat.add_assoc, succ_mod (by omega)]
    simp [nx]
theorem it_false {n x : Nat} (hx : x < n) : ∀ i, i ≤ n → it n false x i = (x + n - i) % n
  | 0, _ => by
    show x = (x + n) % n
    rw [Nat.add_mod_right, Nat.mod_eq_of_lt hx]
  | i + 1, hi => by
    rw [it, it_false hx i (by omega)]
    have h := succ_mod (n := n) (a := x + n - (i + 1)) (by omega)
    rw [show x + n - (i + 1) + 1 = x + n - i by omega] at h
    rw [h]
    have h1 : (x + n - (i + 1)) % n < n := Nat.mod_lt _ (by omega)
    unfold nx
    simp only [Bool.false_eq_true, if_false]
    split <;> split <;> omega

/-- Between, on a line. -/
def Btw (x u v : Int) : Prop := (u < x ∧ x < v) ∨ (v < x ∧ x < u)
def ahead (a b : Int) : Int := (b - a + 41) % 41

/-- How two arcs from one gate lie that do not cross. -/
theorem arcs_lie {A A' B B' g ga gb : Int} (h0 : 0 ≤ g ∧ g ≤ 40) (h1 : 0 ≤ ga ∧ ga ≤ 40) (h2 : 0 ≤ gb ∧ gb ≤ 40) (na : g ≠ ga) (nb : g ≠ gb) (hAB : A ≠ B) (hAB' : A' ≠ B')
    (a1 : g < ga → A < A' ∧ B < A') (a2 : ga < g → A' < A ∧ A' < B) (b1 : g < gb → A < B' ∧ B < B') (b2 : gb < g → B' < A ∧ B' < B) (c1 : ga < gb → A' < B') (c2 : gb < ga → B' < A')
    (hN : Btw B A A' ↔ Btw B' A A') : (ga = gb → (A < B ↔ B' < A')) ∧ (ga ≠ gb → (A < B ↔ ahead g gb < ahead g ga)) := by
  unfold Btw at hN
  unfold ahead
  constructor
  · intro e
    subst e
    rcases Int.lt_or_gt_of_ne na with h | h
    · obtain ⟨p, q⟩ := a1 h
      obtain ⟨p', q'⟩ := b1 h
      constructor
      · intro hl
        have h3 := hN.1 (.inl ⟨hl, q⟩)
        omega
      · intro hl
        have h3 := hN.2 (.inl ⟨p', hl⟩)
        omega
    · obtain ⟨p, q⟩ := a2 h
      obtain ⟨p', q'⟩ := b2 h
      constructor
      · intro hl
        rcases Int.lt_or_gt_of_ne hAB' with h4 | h4
        · have h3 := hN.2 (.inr ⟨h4, p'⟩)
          omega
        · exact h4
      · intro hl
        rcases Int.lt_or_gt_of_ne hAB with h4 | h4
        · exact h4
        · have h3 := hN.1 (.inr ⟨q, h4⟩)
          omega
  · intro hne
    have e1 : (gb - g + 41) % 41 = if g < gb then gb - g else gb - g + 41 := by split <;> omega
    have e2 : (ga - g + 41) % 41 = if g < ga then ga - g else ga - g + 41 := by split <;> omega
    rw [e1, e2]
    rcases Int.lt_or_gt_of_ne na with h | h
    · obtain ⟨p, q⟩ := a1 h
      rcases Int.lt_or_gt_of_ne nb with h' | h'
      · obtain ⟨p', q'⟩ := b1 h'
        rw [if_pos h', if_pos h]
        rcases Int.lt_or_gt_of_ne hne with k | k
        · have := c1 k
          constructor
          · intro hl
            have h3 := hN.1 (.inl ⟨hl, q⟩)
            omega
          · intro hl; omega
        · have := c2 k
          constructor
          · intro hl; omega
          · intro hl
            have h3 := hN.2 (.inl ⟨p', this⟩)
            omega
      · obtain ⟨p', q'⟩ := b2 h'
        rw [if_neg (by omega), if_pos h]
        constructor
        · intro hl
          have h3 := hN.1 (.inl ⟨hl, q⟩)
          omega
        · intro hl; omega
    · obtain ⟨p, q⟩ := a2 h
      rcases Int.lt_or_gt_of_ne nb with h' | h'
      · obtain ⟨p', q'⟩ := b1 h'
        rw [if_pos h', if_neg (by omega)]
        constructor
        · intro hl; omega
        · intro hl
          rcases Int.lt_or_gt_of_ne hAB with h4 | h4
          · exact h4
          · have h3 := hN.1 (.inr ⟨q, h4⟩)
            omega
      · obtain ⟨p', q'⟩ := b2 h'
        rw [if_neg (by omega), if_neg (by omega)]
        rcases Int.lt_or_gt_of_ne hne with k | k
        · have := c1 k
          constructor
          · intro hl
            have h3 := hN.2 (.inr ⟨this, p'⟩)
            omega
          · intro hl; omega
        · have := c2 k
          constructor
          · intro hl; omega
          · intro hl
            rcases Int.lt_or_gt_of_ne hAB with h4 | h4
            · exact h4
            · have h3 := hN.1 (.inr ⟨q, h4⟩)
              omega

theorem btw_swap {x u v : Int} : Btw x u v ↔ Btw x v u := by unfold Btw; omega

/-- A word drawn by positions. -/
structure Dr (n : Nat) (g pos : Nat → Int) : Prop where
  even : n % 2 = 0
  rng : ∀ i, i < n → 0 ≤ g i ∧ g i ≤ 40
  red : ∀ i, i < n → g i ≠ g (nx n true i)
  mon : ∀ i j, i < n → j < n → g i < g j → pos i < pos j
  inj : ∀ i j, i < n → j < n → pos i = pos j → i = j
  nc : ∀ i j, i < n → j < n → i % 2 = j % 2 → i ≠ j → (Btw (pos j) (pos i) (pos (nx n true i)) ↔ Btw (pos (nx n true j)) (pos i) (pos (nx n true i)))

theorem nx_tf {n x : Nat} (hx : x < n) : nx n true (nx n false x) = x := by
  unfold nx
  simp only [Bool.false_eq_true, if_false, if_true]
  split
  · rw [if_pos (by omega)]; omega
  · rw [if_neg (by omega)]; omega
theorem nx_inj {n x y : Nat} (hx : x < n) (hy : y < n) (b : Bool) (h : nx n b x = nx n b y) : x = y := by
  unfold nx at h
  split at h <;> split at h <;> split at h <;> omega

variable {n : Nat} {g pos : Nat → Int}

/-- The arc on which one leaves a letter. -/
def arcOf (n : Nat) (b : Bool) (x : Nat) : Nat := if b then x else nx n false x
theorem arcOf_lt {b : Bool} {x : Nat} (hx : x < n) : arcOf n b x < n := by
  unfold arcOf
  split
  · exact hx
  · exact nx_lt hx
theorem arc_ends {b : Bool} {x : Nat} (hx : x < n) : (arcOf n b x = x ∧ nx n true (arcOf n b x) = nx n b x) ∨ (arcOf n b x = nx n b x ∧ nx n true (arcOf n b x) = x) := by
  cases b with
  | true => exact .inl ⟨rfl, rfl⟩
  | false => exact .inr ⟨rfl, nx_tf hx⟩
theorem Dr.nbr (D : Dr n g pos) {b : Bool} {x : Nat} (hx : x < n) : g x ≠ g (nx n b x) := by
  cases b with
  | true => exact D.red x hx
  | false =>
    have h := D.red (nx n false x) (nx_lt hx)
    rw [nx_tf hx] at h
    exact fun e => h e.symm

theorem Dr.step (D : Dr n g pos) {x y : Nat} {bx bY : Bool} (hx : x < n) (hy : y < n) (hne : x ≠ y) (hg : g x = g y) (hp : arcOf n bx x % 2 = arcOf n bY y % 2) :
    nx n bx x ≠ nx n bY y ∧ (g (nx n bx x) = g (nx n bY y) → (pos x < pos y ↔ pos (nx n bY y) < pos (nx n bx x))) ∧
      (g (nx n bx x) ≠ g (nx n bY y) → (pos x < pos y ↔ ahead (g x) (g (nx n bY y)) < ahead (g x) (g (nx n bx x)))) := by
  have nX := D.nbr (b := bx) hx
  have nY := D.nbr (b := bY) hy
  have lX : nx n bx x < n := nx_lt hx
  have lY : nx n bY y < n := nx_lt hy
  have ex := arc_ends (b := bx) hx
  have ey := arc_ends (b := bY) hy
  have pX := nx_par D.even (b := bx) hx
  have pY := nx_par D.even (b := bY) hy
  have aX : arcOf n bx x < n := arcOf_lt hx
  have aY : arcOf n bY y < n := arcOf_lt hy
  have hxy' : x ≠ nx n bY y := fun e => nY (by rw [← hg, ← e])
  have hyx' : y ≠ nx n bx x := fun e => nX (by rw [hg, ← e])
  have hax : arcOf n bx x ≠ arcOf n bY y := by
    intro e
    rcases ex with ⟨e1, e2⟩ | ⟨e1, e2⟩ <;> rcases ey with ⟨e3, e4⟩ | ⟨e3, e4⟩
    · exact hne (by rw [← e1, ← e3, e])
    · exact hxy' (by rw [← e1, ← e3, e])
    · exact hyx' (by rw [← e1, ← e3, e])
    · rw [e, e4] at e2
      exact hne e2.symm
  have hne' : nx n bx x ≠ nx n bY y := by
    intro e
    rcases ex with ⟨e1, e2⟩ | ⟨e1, e2⟩ <;> rcases ey with ⟨e3, e4⟩ | ⟨e3, e4⟩
    · refine hax (nx_inj aX aY true ?_)
      rw [e2, e4, e]
    · rw [e1, e3] at hp
      rw [e] at pX
      omega
    · rw [e1, e3] at hp
      rw [e] at pX
      omega
    · exact hax (by rw [e1, e3, e])
  have hN : Btw (pos y) (pos x) (pos (nx n bx x)) ↔ Btw (pos (nx n bY y)) (pos x) (pos (nx n bx x)) := by
    have h := D.nc _ _ aX aY hp hax
    rcases ex with ⟨e1, e2⟩ | ⟨e1, e2⟩ <;> rcases ey with ⟨e3, e4⟩ | ⟨e3, e4⟩ <;> rw [e2, e4, e1, e3] at h
    · exact h
    · exact h.symm
    · rw [btw_swap (x := pos y), btw_swap (x := pos (nx n bY y))]; exact h
    · rw [btw_swap (x := pos y), btw_swap (x := pos (nx n bY y))]; exact h.symm
  refine ⟨hne', ?_⟩
  refine arcs_lie (D.rng x hx) (D.rng _ lX) (D.rng _ lY) nX (by rw [hg]; exact nY) (fun e => hne (D.inj _ _ hx hy e)) (fun e => hne' (D.inj _ _ lX lY e)) ?_ ?_ ?_ ?_ (D.mon _ _ lX lY) (D.mon _ _ lY lX) hN
  · exact fun h => ⟨D.mon _ _ hx lX h, D.mon _ _ hy lX (by rw [← hg]; exact h)⟩
  · exact fun h => ⟨D.mon _ _ lX hx h, D.mon _ _ lX hy (by rw [← hg]; exact h)⟩
  · exact fun h => ⟨D.mon _ _ hx lY h, D.mon _ _ hy lY (by rw [← hg]; exact h)⟩
  · exact fun h => ⟨D.mon _ _ lY hx h, D.mon _ _ lY hy (by rw [← hg]; exact h)⟩

/-- The direction in which a strand that begins below leaves a letter. -/
def dir (p : Nat) : Bool := p % 2 == 0
def st (n p i : Nat) : Nat := it n (dir p) p i
theorem arc_par (he : n % 2 = 0) {p : Nat} (hp : p < n) (i : Nat) : arcOf n (dir p) (st n p i) % 2 = i % 2 := by
  have h1 := it_par he (b := dir p) hp i
  have h2 := nx_par he (b := false) (it_lt (b := dir p) hp i)
  unfold arcOf st
  split
  · rename_i h
    have : p % 2 = 0 := by simpa [dir] using h
    omega
  · rename_i h
    have : ¬ p % 2 = 0 := by simpa [dir] using h
    omega

theorem Dr.strand (D : Dr n g pos) {p q : Nat} (hp : p < n) (hq : q < n) (hne : p ≠ q) : ∀ i, (∀ j, j ≤ i → g (st n p j) = g (st n q j)) →
    st n p i ≠ st n q i ∧ (i % 2 = 0 → (pos (st n p i) < pos (st n q i) ↔ pos p < pos q)) ∧ (i % 2 = 1 → (pos (st n q i) < pos (st n p i) ↔ pos p < pos q))
  | 0, _ => ⟨hne, fun _ => Iff.rfl, fun h => by omega⟩
  | i + 1, h => by
    obtain ⟨h1, h2, h3⟩ := D.strand hp hq hne i (fun j hj => h j (by omega))
    have lp : st n p i < n := it_lt hp i
    have lq : st n q i < n := it_lt hq i
    obtain ⟨k1, k2, _⟩ := D.step (bx := dir p) (bY := dir q) lp lq h1 (h i (by omega)) (by rw [arc_par D.even hp, arc_par D.even hq])
    have k3 : pos (st n p i) < pos (st n q i) ↔ pos (st n q (i + 1)) < pos (st n p (i + 1)) := k2 (h (i + 1) (Nat.le_refl _))
    have ne1 : pos (st n p i) ≠ pos (st n q i) := fun e => h1 (D.inj _ _ lp lq e)
    have ne2 : pos (st n p (i + 1)) ≠ pos (st n q (i + 1)) := fun e => k1 (D.inj _ _ (nx_lt lp) (nx_lt lq) e)
    refine ⟨k1, fun he => ?_, fun ho => ?_⟩
    · have := h3 (by omega)
      omega
    · have := h2 (by omega)
      omega

/-- Strands that meet head on. -/
theorem head_on {p q : Nat} (he : n % 2 = 0) (hp : p < n) (hq : q < n) (p0 : p % 2 = 0) (q1 : q % 2 = 1) (red : ∀ i, i < n → g i ≠ g (nx n true i)) (h : ∀ j, j < n → g (st n p j) = g (st n q j)) : False := by
  have dp : dir p = true := by simp [dir, p0]
  have dq : dir q = false := by simp [dir, q1]
  obtain ⟨d, hd⟩ : ∃ d, d = if p ≤ q then q - p else q + n - p := ⟨_, rfl⟩
  have hd1 : d % 2 = 1 := by rw [hd]; split <;> omega
  have hdn : d < n := by rw [hd]; split <;> omega
  have key : ∀ i, 2 * i < d → (if st n p i ≤ st n q i then st n q i - st n p i else st n q i + n - st n p i) = d - 2 * i := by
    intro i
    induction i with
    | zero => intro _; exact hd.symm
    | succ i ih =>
      intro hi
      have h1 := ih (by omega)
      have l1 : st n p i < n := it_lt hp i
      have l2 : st n q i < n := it_lt hq i
      have e1 : st n p (i + 1) = if st n p i + 1 = n then 0 else st n p i + 1 := by unfold st; rw [it, dp]; rfl
      have e2 : st n q (i + 1) = if st n q i = 0 then n - 1 else st n q i - 1 := by unfold st; rw [it, dq]; rfl
      rw [e1, e2]
      split at h1 <;> split <;> split <;> split <;> omega
  have h1 := key ((d - 1) / 2) (by omega)
  have l1 : st n p ((d - 1) / 2) < n := it_lt hp _
  have l2 : st n q ((d - 1) / 2) < n := it_lt hq _
  have e : st n q ((d - 1) / 2) = nx n true (st n p ((d - 1) / 2)) := by
    unfold nx
    rw [if_pos rfl]
    split at h1 <;> split <;> omega
  refine red _ l1 ?_
  rw [← e]
  exact h _ (by omega)

theorem it_round {b : Bool} {x : Nat} (hx : x < n) : it n b x n = x := by
  cases b with
  | true => rw [it_true hx, Nat.add_mod_right, Nat.mod_eq_of_lt hx]
  | false => rw [it_false hx n (Nat.le_refl _), Nat.add_sub_cancel, Nat.mod_eq_of_lt hx]
theorem it_rounds {b : Bool} {x : Nat} (hx : x < n) : ∀ k, it n b x (n * k) = x
  | 0 => rfl
  | k + 1 => by rw [Nat.mul_succ, it_add, it_rounds hx k, it_round hx]
theorem reach {p q : Nat} (he : n % 2 = 0) (hp : p < n) (hq : q < n) (_hne : p ≠ q) (hpar : p % 2 = q % 2) : ∃ d, d % 2 = 0 ∧ 0 < d ∧ it n (dir p) p d = q := by
  cases hd : dir p with
  | true =>
    refine ⟨if p < q then q - p else q + n - p, by split <;> omega, by split <;> omega, ?_⟩
    rw [it_true hp]
    split
    · rw [show p + (q - p) = q by omega, Nat.mod_eq_of_lt hq]
    · rw [show p + (q + n - p) = q + n by omega, Nat.add_mod_right, Nat.mod_eq_of_lt hq]
  | false =>
    refine ⟨if q < p then p - q else p + n - q, by split <;> omega, by split <;> omega, ?_⟩
    rw [it_false hp _ (by split <;> omega)]
    split
    · rw [show p + n - (p - q) = q + n by omega, Nat.add_mod_right, Nat.mod_eq_of_lt hq]
    · rw [show p + n - (p + n - q) = q by omega, Nat.mod_eq_of_lt hq]

/-- All strands of a drawn word part. -/
theorem Dr.parts (D : Dr n g pos) {p q : Nat} (hp : p < n) (hq : q < n) (hne : p ≠ q) : ¬ ∀ j, j < n → g (st n p j) = g (st n q j) := by
  intro h
  by_cases hpar : p % 2 = q % 2
  · have hdir : dir q = dir p := by unfold dir; rw [hpar]
    obtain ⟨d, d0, d1, hdq⟩ := reach D.even hp hq hne hpar
    have hall : ∀ m j, j ≤ m → g (st n p j) = g (st n q j) := by
      intro m
      induction m with
      | zero => intro j hj; exact h j (by omega)
      | succ m ih =>
        intro j hj
        rcases Nat.lt_or_ge j n with hl | hl
        · exact h j hl
        · have e1 : st n p j = st n p (j - n) := by
            unfold st
            rw [show j = n + (j - n) by omega, it_add, it_round hp, Nat.add_sub_cancel_left]
          have e2 : st n q j = st n q (j - n) := by
            unfold st
            rw [show j = n + (j - n) by omega, it_add, it_round hq, Nat.add_sub_cancel_left]
          rw [e1, e2]
          exact ih _ (by omega)
    have hs : ∀ i, st n q i = st n p (d + i) := by
      intro i
      unfold st
      rw [it_add, hdq, hdir]
    have hk : ∀ k, pos (st n p (d * k)) ≠ pos (st n p (d * (k + 1))) ∧ (pos (st n p (d * k)) < pos (st n p (d * (k + 1))) ↔ pos p < pos q) := by
      intro k
      obtain ⟨k1, k2, _⟩ := D.strand hp hq hne (d * k) (fun j _ => hall j j (Nat.le_refl _))
      have e : d * (k + 1) = d + d * k := by rw [Nat.mul_succ, Nat.add_comm]
      rw [hs] at k1 k2
      rw [e]
      refine ⟨fun e => k1 (D.inj _ _ (it_lt hp _) (it_lt hp _) e), k2 ?_⟩
      rw [Nat.mul_mod, d0, Nat.zero_mul, Nat.zero_mod]
    have hend : st n p (d * n) = st n p (d * 0) := by
      rw [Nat.mul_comm]
      exact it_rounds hp d
    by_cases hl : pos p < pos q
    · have hm : ∀ k, pos (st n p (d * 0)) < pos (st n p (d * (k + 1))) := by
        intro k
        induction k with
        | zero => exact (hk 0).2.2 hl
        | succ k ih => exact Int.lt_trans ih ((hk (k + 1)).2.2 hl)
      have := hm (n - 1)
      rw [show n - 1 + 1 = n by omega, hend] at this
      omega
    · have hlt : ∀ k, pos (st n p (d * (k + 1))) < pos (st n p (d * k)) := by
        intro k
        have h1 := (hk k).1
        have h2 : ¬ pos (st n p (d * k)) < pos (st n p (d * (k + 1))) := fun q => hl ((hk k).2.1 q)
        omega
      have hm : ∀ k, pos (st n p (d * (k + 1))) < pos (st n p (d * 0)) := by
        intro k
        induction k with
        | zero => exact hlt 0
        | succ k ih => exact Int.lt_trans (hlt (k + 1)) ih
      have := hm (n - 1)
      rw [show n - 1 + 1 = n by omega, hend] at this
      omega
  · rcases Nat.mod_two_eq_zero_or_one p with p0 | p1
    · exact head_on D.even hp hq p0 (by omega) D.red h
    · exact head_on D.even hq hp (by omega) p1 D.red (fun j hj => (h j hj).symm)

/-- One letter lies before another one by its strand. -/
def Lt (n : Nat) (g : Nat → Int) (p q : Nat) : Prop :=
  ∃ k, 1 ≤ k ∧ k < n ∧ (∀ j, j < k → g (st n p j) = g (st n q j)) ∧
    ((k % 2 = 1 ∧ ahead (g (st n p (k - 1))) (g (st n q k)) < ahead (g (st n p (k - 1))) (g (st n p k))) ∨
     (k % 2 = 0 ∧ ahead (g (st n p (k - 1))) (g (st n p k)) < ahead (g (st n p (k - 1))) (g (st n q k))))

theorem Dr.lt_pos (D : Dr n g pos) {p q : Nat} (hp : p < n) (hq : q < n) (hne : p ≠ q) (h : Lt n g p q) : pos p < pos q := by
  obtain ⟨k, k1, kn, he, hk⟩ := h
  obtain ⟨s1, s2, s3⟩ := D.strand hp hq hne (k - 1) (fun j hj => he j (by omega))
  have lp : st n p (k - 1) < n := it_lt hp _
  have lq : st n q (k - 1) < n := it_lt hq _
  obtain ⟨t1, _, t3⟩ := D.step (bx := dir p) (bY := dir q) lp lq s1 (he (k - 1) (by omega)) (by rw [arc_par D.even hp, arc_par D.even hq])
  have ep : nx n (dir p) (st n p (k - 1)) = st n p k := by
    obtain ⟨m, rfl⟩ : ∃ m, k = m + 1 := ⟨k - 1, by omega⟩
    rfl
  have eq : nx n (dir q) (st n q (k - 1)) = st n q k := by
    obtain ⟨m, rfl⟩ : ∃ m, k = m + 1 := ⟨k - 1, by omega⟩
    rfl
  rw [ep, eq] at t3
  have hne2 : g (st n p k) ≠ g (st n q k) := by
    intro e
    rw [e] at hk
    omega
  have t4 := t3 hne2
  have ne1 : pos (st n p (k - 1)) ≠ pos (st n q (k - 1)) := fun e => s1 (D.inj _ _ lp lq e)
  rcases hk with ⟨ko, hk⟩ | ⟨ke, hk⟩
  · exact (s2 (by omega)).1 (t4.2 hk)
  · refine (s3 (by omega)).1 ?_
    have : ¬ pos (st n p (k - 1)) < pos (st n q (k - 1)) := fun q => by have := t4.1 q; omega
    omega

theorem Lt.trans {p q r : Nat} (h : Lt n g p q) (h' : Lt n g q r) : Lt n g p r := by
  obtain ⟨k, k1, kn, he, hk⟩ := h
  obtain ⟨k', k1', kn', he', hk'⟩ := h'
  rcases Nat.lt_trichotomy k k' with hl | rfl | hl
  · refine ⟨k, k1, kn, fun j hj => (he j hj).trans (he' j (by omega)), ?_⟩
    rw [← he' k hl]
    exact hk
  · refine ⟨k, k1, kn, fun j hj => (he j hj).trans (he' j hj), ?_⟩
    rw [← he (k - 1) (by omega)] at hk'
    omega
  · refine ⟨k', k1', kn', fun j hj => (he j (by omega)).trans (he' j hj), ?_⟩
    rw [he k' hl, he (k' - 1) (by omega)]
    exact hk'
theorem Lt.irrefl {p : Nat} (h : Lt n g p p) : False := by
  obtain ⟨k, _, _, _, hk⟩ := h
  omega
theorem Lt.gate {p q : Nat} (h : Lt n g p q) : g p = g q := by
  obtain ⟨k, k1, _, he, _⟩ := h
  exact he 0 (by omega)

end Go.Proofs.YtenomnkdfiojbaaDoor.Rk
