/-
  Having ranks: said by positions; rotations, the reverse and the mirror image have ranks if the word has; the winding numbers of a drawn word.
-/
import Derived.Test.YtenomnkdfiojbaaDoorRkD
namespace Go.Proofs.YtenomnkdfiojbaaDoor
open Go.RowKit

/-- Some positions draw the word. -/
def HasPos (xs : List Int) : Prop := ∃ pos, Rk.Dr xs.length (gt xs) pos

theorem Rk.Btw.congr {x a b x' a' b' : Int} (h1 : x < a ↔ x' < a') (h2 : a < x ↔ a' < x') (h3 : x < b ↔ x' < b') (h4 : b < x ↔ b' < x') : Rk.Btw x a b ↔ Rk.Btw x' a' b' := by
  unfold Rk.Btw
  rw [h1, h2, h3, h4]

theorem hasPos_iff {xs : List Int} {n : Nat} (hl : xs.length = n) (hr : reducedB xs = true) : (∃ R, DrawnR xs R n) ↔ HasPos xs := by
  obtain ⟨he, hn, hrng⟩ := red_rng hr
  constructor
  · rintro ⟨R, hR⟩
    rw [hl] at hn
    obtain ⟨h1, h2⟩ := (drawnR_iff hn).1 hR
    exact ⟨posOf xs R, by rw [hl]; exact dr_of hl hn hr h1 h2⟩
  · rintro ⟨pos, D⟩
    rw [hl] at D hn
    obtain ⟨R, hRd⟩ : ∃ R : List Int, R = (List.range n).map fun i => 1 + cnt (fun j => decide (gt xs j = gt xs i) && decide (pos j < pos i)) n := ⟨_, rfl⟩
    have hg : ∀ i, i < n → gt R i = 1 + cnt (fun j => decide (gt xs j = gt xs i) && decide (pos j < pos i)) n := by
      intro i hi
      unfold gt
      rw [hRd, List.getD_eq_getElem?_getD, List.getElem?_map, List.getElem?_range hi]
      rfl
    have hlt : ∀ i j, i < n → j < n → gt xs i = gt xs j → pos i < pos j → gt R i < gt R j := by
      intro i j hi hj hgij hp
      rw [hg i hi, hg j hj]
      have := cnt_strict (f := fun k => decide (gt xs k = gt xs i) && decide (pos k < pos i)) (h := fun k => decide (gt xs k = gt xs j) && decide (pos k < pos j)) (m := n) (fun k _ hk => by
        simp only [Bool.and_eq_true, decide_eq_true_eq] at hk ⊢
        exact ⟨hk.1.trans hgij, by omega⟩) ⟨i, hi, by simp, by simp [hgij, hp]⟩
      omega
    have hR : Rks xs R n := by
      refine ⟨by rw [hRd]; simp, fun i hi => ⟨?_, ?_, fun j hj hgj hrj => ?_⟩⟩
      · rw [hg i hi]
        have := cnt_nonneg (fun j => decide (gt xs j = gt xs i) && decide (pos j < pos i)) n
        omega
      · rw [hg i hi]
        have := cnt_strict (f := fun j => decide (gt xs j = gt xs i) && decide (pos j < pos i)) (h := fun j => decide (gt xs j = gt xs i)) (m := n) (fun k _ hk => by
          simp only [Bool.and_eq_true, decide_eq_true_eq] at hk ⊢
          exact hk.1) ⟨i, hi, by simp, by simp⟩
        omega
      · refine D.inj j i hj hi ?_
        rcases Int.lt_trichotomy (pos j) (pos i) with c | c | c
        · have := hlt j i hj hi hgj c; omega
        · exact c
        · have := hlt i j hi hj hgj.symm c; omega
    have hord : ∀ i j, i < n → j < n → (posOf xs R i < posOf xs R j ↔ pos i < pos j) := by
      intro i j hi hj
      have b1 := hR.bds hi
      have b2 := hR.bds hj
      rcases Int.lt_trichotomy (gt xs i) (gt xs j) with c | c | c
      · have := D.mon i j hi hj c
        unfold posOf
        omega
      · have h1 := hlt i j hi hj c
        have h2 := hlt j i hj hi c.symm
        have h3 : pos i = pos j → gt R i = gt R j := fun e => by rw [D.inj i j hi hj e]
        unfold posOf
        omega
      · have := D.mon j i hj hi c
        unfold posOf
        omega
    refine ⟨R, (drawnR_iff hn).2 ⟨hR, fun i j hi hj hij hne => ?_⟩⟩
    have h1 : Rk.nx n true i < n := Rk.nx_lt hi
    have h2 : Rk.nx n true j < n := Rk.nx_lt hj
    rw [Rk.Btw.congr (hord j i hj hi) (hord i j hi hj) (hord _ _ hj h1) (hord _ _ h1 hj), Rk.Btw.congr (hord _ i h2 hi) (hord i _ hi h2) (hord _ _ h2 h1) (hord _ _ h1 h2)]
    exact D.nc i j hi hj hij hne

/-- A word turned by one letter. -/
theorem Rk.Dr.shift {n : Nat} {g pos g' : Nat → Int} (D : Rk.Dr n g pos) (h : ∀ i, i < n → g' i = g (Rk.nx n true i)) : Rk.Dr n g' (fun i => pos (Rk.nx n true i)) := by
  have hn : ∀ i, i < n → Rk.nx n true i < n := fun i hi => Rk.nx_lt hi
  refine ⟨D.even, fun i hi => by rw [h i hi]; exact D.rng _ (hn i hi), fun i hi => by rw [h i hi, h _ (hn i hi)]; exact D.red _ (hn i hi), fun i j hi hj hg => ?_, fun i j hi hj he => ?_, fun i j hi hj hij hne => ?_⟩
  · rw [h i hi, h j hj] at hg
    exact D.mon _ _ (hn i hi) (hn j hj) hg
  · exact Rk.nx_inj hi hj true (D.inj _ _ (hn i hi) (hn j hj) he)
  · have p1 := Rk.nx_par D.even (b := true) hi
    have p2 := Rk.nx_par D.even (b := true) hj
    exact D.nc _ _ (hn i hi) (hn j hj) (by omega) (fun e => hne (Rk.nx_inj hi hj true e))
/-- A word in the opposite order. -/
theorem Rk.Dr.rev {n : Nat} {g pos g' : Nat → Int} (D : Rk.Dr n g pos) (h : ∀ i, i < n → g' i = g (n - 1 - i)) : Rk.Dr n g' (fun i => pos (n - 1 - i)) := by
  have hnx : ∀ i, i < n → Rk.nx n true (n - 1 - Rk.nx n true i) = n - 1 - i := by
    intro i hi
    unfold Rk.nx
    simp only [if_true]
    split <;> split <;> omega
  have hl : ∀ i, i < n → n - 1 - i < n := fun i hi => by omega
  have hn : ∀ i, i < n → Rk.nx n true i < n := fun i hi => Rk.nx_lt hi
  refine ⟨D.even, fun i hi => by rw [h i hi]; exact D.rng _ (hl i hi), fun i hi => ?_, fun i j hi hj hg => ?_, fun i j hi hj he => ?_, fun i j hi hj hij hne => ?_⟩
  · rw [h i hi, h _ (hn i hi)]
    have := D.red (n - 1 - Rk.nx n true i) (hl _ (hn i hi))
    rw [hnx i hi] at this
    exact fun e => this e.symm
  · rw [h i hi, h j hj] at hg
    exact D.mon _ _ (hl i hi) (hl j hj) hg
  · have := D.inj _ _ (hl i hi) (hl j hj) he
    omega
  · have p1 := Rk.nx_par D.even (b := true) hi
    have p2 := Rk.nx_par D.even (b := true) hj
    have q1 := hn i hi
    have q2 := hn j hj
    have := D.nc (n - 1 - Rk.nx n true i) (n - 1 - Rk.nx n true j) (hl _ q1) (hl _ q2) (by have := D.even; omega) (fun e => hne (Rk.nx_inj hi hj true (by omega)))
    rw [hnx i hi, hnx j hj] at this
    show Rk.Btw (pos (n - 1 - j)) (pos (n - 1 - i)) (pos (n - 1 - Rk.nx n true i)) ↔ Rk.Btw (pos (n - 1 - Rk.nx n true j)) (pos (n - 1 - i)) (pos (n - 1 - Rk.nx n true i))
    rw [Rk.btw_swap (x := pos (n - 1 - j)), Rk.btw_swap (x := pos (n - 1 - Rk.nx n true j))]
    exact this.symm
/-- The mirror image. -/
theorem Rk.Dr.mir {n : Nat} {g pos g' : Nat → Int} (D : Rk.Dr n g pos) (k : Int) (hk : k ≤ 40) (hb : ∀ i, i < n → g i ≤ k) (h : ∀ i, i < n → g' i = k - g i) : Rk.Dr n g' (fun i => - pos i) := by
  have hn : ∀ i, i < n → Rk.nx n true i < n := fun i hi => Rk.nx_lt hi
  refine ⟨D.even, fun i hi => ?_, fun i hi => ?_, fun i j hi hj hg => ?_, fun i j hi hj he => ?_, fun i j hi hj hij hne => ?_⟩
  · have := D.rng i hi
    have := hb i hi
    rw [h i hi]
    omega
  · have := D.red i hi
    rw [h i hi, h _ (hn i hi)]
    omega
  · rw [h i hi, h j hj] at hg
    have := D.mon j i hj hi (by omega)
    omega
  · exact D.inj i j hi hj (by omega)
  · have hx : ∀ x a b : Int, Rk.Btw (-x) (-a) (-b) ↔ Rk.Btw x a b := by intro x a b; unfold Rk.Btw; omega
    have := D.nc i j hi hj hij hne
    rw [hx, hx]
    exact this

theorem gt_rot1 {xs : List Int} {i : Nat} (hi : i < xs.length) : gt (Ln.rot1 xs) i = gt xs (Rk.nx xs.length true i) := by
  unfold gt Rk.nx Ln.rot1
  rw [if_pos rfl, List.getD_eq_getElem?_getD, List.getD_eq_getElem?_getD]
  congr 1
  by_cases h : i + 1 = xs.length
  · rw [if_pos h, List.getElem?_append_right (by simp; omega), List.length_drop, List.getElem?_take, if_pos (by omega)]
    congr 1
    omega
  · rw [if_neg h, List.getElem?_append_left (by simp; omega), List.getElem?_drop]
    congr 1
    omega
theorem HasPos.rot1 {xs : List Int} (h : HasPos xs) : HasPos (Ln.rot1 xs) := by
  obtain ⟨pos, D⟩ := h
  refine ⟨fun i => pos (Rk.nx xs.length true i), ?_⟩
  rw [Ln.length_rot1]
  exact D.shift (fun i hi => gt_rot1 hi)
theorem HasPos.rotN {xs : List Int} (h : HasPos xs) : ∀ k, HasPos (Ln.rotN k xs)
  | 0 => h
  | k + 1 => by
    have e : Ln.rotN (k + 1) xs = Ln.rotN k (Ln.rot1 xs) := by
      rw [show k + 1 = 1 + k by omega, Ln.rotN_add]
      rfl
    rw [e]
    exact HasPos.rotN h.rot1 k
theorem HasPos.reverse {xs : List Int} (h : HasPos xs) : HasPos xs.reverse := by
  obtain ⟨pos, D⟩ := h
  refine ⟨fun i => pos (xs.length - 1 - i), ?_⟩
  rw [List.length_reverse]
  refine D.rev (fun i hi => ?_)
  unfold gt
  rw [List.getD_eq_getElem?_getD, List.getD_eq_getElem?_getD, List.getElem?_reverse hi]
theorem HasPos.mirror {xs : List Int} (h : HasPos xs) (k : Int) (hk : k ≤ 40) (hb : ∀ x, x ∈ xs → x ≤ k) : HasPos (xs.map fun x => k - x) := by
  obtain ⟨pos, D⟩ := h
  refine ⟨fun i => - pos i, ?_⟩
  rw [List.length_map]
  refine D.mir k hk (fun i hi => ?_) (fun i hi => ?_)
  · unfold gt
    rw [List.getD_eq_getElem?_getD, List.getElem?_eq_getElem hi]
    exact hb _ (List.getElem_mem _)
  · unfold gt
    rw [List.getD_eq_getElem?_getD, List.getD_eq_getElem?_getD, List.getElem?_map, List.getElem?_eq_getElem hi]
    rfl
theorem hasPos_rot1 {xs : List Int} : HasPos (Ln.rot1 xs) ↔ HasPos xs := by
  refine ⟨fun h => ?_, HasPos.rot1⟩
  have h2 := h.rotN (xs.length - 1)
  by_cases h0 : xs.length = 0
  · obtain rfl := List.eq_nil_of_length_eq_zero h0
    exact h
  · have e : Ln.rotN (xs.length - 1) (Ln.rot1 xs) = xs := by
      have := Ln.rotN_add 1 (xs.length - 1) xs
      rw [show 1 + (xs.length - 1) = xs.length by omega, Ln.rotN_len] at this
      exact this.symm
    rw [e] at h2
    exact h2
theorem hasPos_cd {xs l : List Int} (he : xs.length % 2 = 0) (h : Ln.Cd xs l) : HasPos l ↔ HasPos xs := by
  constructor
  · intro hp
    rcases h with h | h
    · obtain ⟨j, hj⟩ := Ln.Ev.symm he h
      rw [hj]
      exact hp.rotN _
    · obtain ⟨j, hj⟩ := Ln.Ev.symm (by rw [List.length_reverse]; exact he) h
      have := hp.rotN (2 * j)
      rw [← hj] at this
      have := this.reverse
      rwa [List.reverse_reverse] at this
  · intro hp
    rcases h with ⟨j, hj⟩ | ⟨j, hj⟩
    · rw [hj]; exact hp.rotN _
    · rw [hj]; exact hp.reverse.rotN _
theorem hasPos_mirror {xs : List Int} (k : Int) (hk : k ≤ 40) (hb : ∀ x, x ∈ xs → 0 ≤ x ∧ x ≤ k) : HasPos (xs.map fun x => k - x) ↔ HasPos xs := by
  refine ⟨fun h => ?_, fun h => h.mirror k hk (fun x hx => (hb x hx).2)⟩
  have := h.mirror k hk (fun x hx => by
    obtain ⟨y, hy, rfl⟩ := List.mem_map.1 hx
    have := hb y hy
    omega)
  rw [List.map_map] at this
  have e : ((fun x => k - x) ∘ fun x => k - x) = (id : Int → Int) := by funext x; simp only [Function.comp, id]; omega
  rw [e, List.map_id] at this
  exact this

/-- Sums over the letters. -/
def sm (φ : Nat → Int) : Nat → Int
  | 0 => 0
  | m + 1 => sm φ m + φ m
theorem sm_congr {φ ψ : Nat → Int} : ∀ {m : Nat}, (∀ j, j < m → φ j = ψ j) → sm φ m = sm ψ m
  | 0, _ => rfl
  | m + 1, h => by rw [sm, sm, sm_congr (fun j hj => h j (by omega)), h m (by omega)]
theorem sm_one {φ ψ : Nat → Int} {i : Nat} : ∀ {m : Nat}, i < m → (∀ j, j < m → j ≠ i → φ j = ψ j) → sm φ m = sm ψ m + (φ i - ψ i)
  | 0, hi, _ => by omega
  | m + 1, hi, h => by
    rw [sm, sm]
    by_cases e : i = m
    · subst e
      rw [sm_congr (m := i) (fun j hj => h j (by omega) (by omega))]
      omega
    · rw [sm_one (m := m) (by omega) (fun j hj => h j (by omega)), h m (by omega) (fun c => e c.symm)]
      omega
def ind (b : Bool) : Int := if b then 1 else 0
theorem cnt_sm (f : Nat → Bool) : ∀ m, cnt f m = sm (fun j => ind (f j)) m
  | 0 => rfl
  | m + 1 => by rw [cnt, sm, cnt_sm f m]; rfl
theorem cnt_five {f g h e k : Nat → Bool} : ∀ {m : Nat}, (∀ j, j < m → ind (f j) + ind (g j) = 2 * ind (h j) + ind (e j) + ind (k j)) → cnt f m + cnt g m = 2 * cnt h m + cnt e m + cnt k m
  | 0, _ => by simp [cnt]
  | m + 1, H => by
    have h1 := cnt_five (f := f) (g := g) (h := h) (e := e) (k := k) (m := m) (fun j hj => H j (by omega))
    have h2 := H m (by omega)
    unfold ind at h2
    rw [cnt, cnt, cnt, cnt, cnt]
    omega

/-- What is the same at both ends of each arc of one side is there for an even number of letters. -/
theorem cnt_even {f : Nat → Bool} {n s : Nat} (he : n % 2 = 0) (h : ∀ j, j < n → j % 2 = s % 2 → f j = f (Rk.nx n true j)) : cnt f n % 2 = 0 := by
  rcases Nat.mod_two_eq_zero_or_one s with hs | hs
  · have key : ∀ t, 2 * t ≤ n → cnt f (2 * t) % 2 = 0 := by
      intro t
      induction t with
      | zero => intro _; rfl
      | succ t ih =>
        intro ht
        have h1 := ih (by omega)
        have h2 := h (2 * t) (by omega) (by omega)
        have e : Rk.nx n true (2 * t) = 2 * t + 1 := by unfold Rk.nx; rw [if_pos rfl, if_neg (by omega)]
        rw [e] at h2
        rw [show 2 * (t + 1) = 2 * t + 1 + 1 by omega, cnt, cnt, ← h2]
        split <;> omega
    have := key (n / 2) (by omega)
    rwa [show 2 * (n / 2) = n by omega] at this
  · by_cases h0 : n = 0
    · subst h0; rfl
    · have key : ∀ t, 2 * t + 1 ≤ n → cnt f (2 * t + 1) % 2 = ind (f 0) := by
        intro t
        induction t with
        | zero => intro _; show (0 + if f 0 = true then (1 : Int) else 0) % 2 = _; unfold ind; split <;> rfl
        | succ t ih =>
          intro ht
          have h1 := ih (by omega)
          have h2 := h (2 * t + 1) (by omega) (by omega)
          have e : Rk.nx n true (2 * t + 1) = 2 * t + 1 + 1 := by unfold Rk.nx; rw [if_pos rfl, if_neg (by omega)]
          rw [e] at h2
          rw [show 2 * (t + 1) + 1 = 2 * t + 1 + 1 + 1 by omega, cnt, cnt, ← h2]
          split <;> omega
      have h1 := key (n / 2 - 1) (by omega)
      have h2 := h (n - 1) (by omega) (by omega)
      have e : Rk.nx n true (n - 1) = 0 := by unfold Rk.nx; rw [if_pos rfl, if_pos (by omega)]
      rw [e] at h2
      rw [show 2 * (n / 2 - 1) + 1 = n - 1 by omega] at h1
      have e2 : cnt f n = cnt f (n - 1) + if f (n - 1) = true then 1 else 0 := by
        obtain ⟨k, rfl⟩ : ∃ k, n = k + 1 := ⟨n - 1, by omega⟩
        rfl
      rw [e2, h2]
      unfold ind at h1
      by_cases hf : f 0 = true
      · rw [if_pos hf] at h1 ⊢; omega
      · rw [if_neg hf] at h1 ⊢; omega

/-- How many letters lie to the left of a letter. -/
def lft (n : Nat) (pos : Nat → Int) (i : Nat) : Int := cnt (fun j => decide (pos j < pos i)) n

theorem Rk.Dr.adj {n : Nat} {g pos : Nat → Int} (D : Rk.Dr n g pos) {i : Nat} (hi : i < n) : (lft n pos (Rk.nx n true i) + lft n pos i) % 2 = 1 := by
  have hn : Rk.nx n true i < n := Rk.nx_lt hi
  have hne : i ≠ Rk.nx n true i := fun e => D.red i hi (by rw [← e])
  have hB : cnt (fun j => decide (Rk.Btw (pos j) (pos i) (pos (Rk.nx n true i)))) n % 2 = 0 := by
    refine cnt_even (s := i) D.even ?_
    intro j hj hij
    rw [decide_eq_decide]
    by_cases e : i = j
    · subst e
      unfold Rk.Btw
      omega
    · exact D.nc i j hi hj hij.symm e
  have pne : pos i ≠ pos (Rk.nx n true i) := fun e => hne (D.inj _ _ hi hn e)
  have five : ∀ a b, a < n → b < n → pos a < pos b → (∀ j, j < n → (pos j = pos a → j = a)) → lft n pos b + lft n pos a = 2 * lft n pos a + 1 + cnt (fun j => decide (Rk.Btw (pos j) (pos a) (pos b))) n := by
    intro a b ha hb hab hinj
    have h1 : cnt (fun j => decide (j = a)) n = 1 := by rw [cnt_self, if_pos ha]
    have := cnt_five (f := fun j => decide (pos j < pos b)) (g := fun j => decide (pos j < pos a)) (h := fun j => decide (pos j < pos a)) (e := fun j => decide (j = a)) (k := fun j => decide (Rk.Btw (pos j) (pos a) (pos b))) (m := n) (fun j hj => by
      have hq := hinj j hj
      unfold ind
      simp only [decide_eq_true_eq]
      by_cases c1 : pos j < pos a
      · have c2 : pos j < pos b := by omega
        have c3 : ¬ j = a := fun e => by subst e; omega
        have c4 : ¬ Rk.Btw (pos j) (pos a) (pos b) := by unfold Rk.Btw; omega
        rw [if_pos c1, if_pos c2, if_neg c3, if_neg c4]; rfl
      · by_cases c5 : pos j = pos a
        · have c6 := hq c5
          subst c6
          have c4 : ¬ Rk.Btw (pos j) (pos j) (pos b) := by unfold Rk.Btw; omega
          rw [if_pos hab, if_neg c1, if_pos rfl, if_neg c4]; rfl
        · have c3 : ¬ j = a := fun e => by subst e; exact c5 rfl
          by_cases c2 : pos j < pos b
          · have c4 : Rk.Btw (pos j) (pos a) (pos b) := by unfold Rk.Btw; omega
            rw [if_pos c2, if_neg c1, if_neg c3, if_pos c4]; rfl
          · have c4 : ¬ Rk.Btw (pos j) (pos a) (pos b) := by unfold Rk.Btw; omega
            rw [if_neg c2, if_neg c1, if_neg c3, if_neg c4]; rfl)
    rw [h1] at this
    exact this
  rcases Int.lt_or_gt_of_ne pne with c | c
  · have := five i _ hi hn c (fun j hj e => D.inj _ _ hj hi e)
    omega
  · have := five _ i hn hi c (fun j hj e => D.inj _ _ hj hn e)
    have e : cnt (fun j => decide (Rk.Btw (pos j) (pos (Rk.nx n true i)) (pos i))) n = cnt (fun j => decide (Rk.Btw (pos j) (pos i) (pos (Rk.nx n true i)))) n :=
      cnt_congr fun j _ => by rw [decide_eq_decide]; exact Rk.btw_swap
    rw [e] at this
    omega
theorem Rk.Dr.alt {n : Nat} {g pos : Nat → Int} (D : Rk.Dr n g pos) : ∀ i, i < n → (lft n pos i + i) % 2 = lft n pos 0 % 2
  | 0, _ => by simp
  | i + 1, hi => by
    have h1 := D.alt i (by omega)
    have h2 := D.adj (i := i) (by omega)
    have e : Rk.nx n true i = i + 1 := by unfold Rk.nx; rw [if_pos rfl, if_neg (by omega)]
    rw [e] at h2
    omega

/-- The winding number left of a place on the axis. -/
def wd (n : Nat) (pos : Nat → Int) (T : Int) : Int := sm (fun i => if pos i < T then 1 - 2 * ((i : Int) % 2) else 0) n

theorem Rk.Dr.wind {n : Nat} {g pos : Nat → Int} (D : Rk.Dr n g pos) (h0 : ∀ i, i < n → 0 ≤ pos i) : ∀ T : Nat,
    wd n pos T = if cnt (fun j => decide (pos j < (T : Int))) n % 2 = 0 then 0 else 1 - 2 * (lft n pos 0 % 2)
  | 0 => by
    have e1 : cnt (fun j => decide (pos j < ((0 : Nat) : Int))) n = 0 := cnt_false fun i hi => by have := h0 i hi; simp; omega
    have e2 : wd n pos ((0 : Nat) : Int) = 0 := by
      unfold wd
      rw [sm_congr (ψ := fun _ => 0) (fun j hj => by have := h0 j hj; rw [if_neg (by omega)])]
      have : ∀ m, sm (fun _ => (0 : Int)) m = 0 := by
        intro m
        induction m with
        | zero => rfl
        | succ m ih => rw [sm, ih]; rfl
      exact this n
    rw [e1, e2]
    rfl
  | T + 1 => by
    have ih := D.wind h0 T
    by_cases hex : ∃ i, i < n ∧ pos i = (T : Int)
    · obtain ⟨i, hi, hp⟩ := hex
      have hc : cnt (fun j => decide (pos j < (T : Int))) n = lft n pos i := by unfold lft; rw [hp]
      have ha := D.alt i hi
      have e1 : wd n pos ((T + 1 : Nat) : Int) = wd n pos T + (1 - 2 * ((i : Int) % 2)) := by
        unfold wd
        rw [sm_one (φ := fun i => if pos i < ((T + 1 : Nat) : Int) then 1 - 2 * ((i : Int) % 2) else 0) (ψ := fun i => if pos i < (T : Int) then 1 - 2 * ((i : Int) % 2) else 0) hi (fun j hj hne => by
          have : pos j ≠ (T : Int) := fun e => hne (D.inj _ _ hj hi (by rw [e, hp]))
          by_cases c : pos j < (T : Int)
          · rw [if_pos c, if_pos (by omega)]
          · rw [if_neg c, if_neg (by omega)])]
        rw [if_pos (by omega), if_neg (by omega)]
        omega
      have e2 : cnt (fun j => decide (pos j < ((T + 1 : Nat) : Int))) n = cnt (fun j => decide (pos j < (T : Int))) n + 1 := by
        rw [cnt_sm, cnt_sm, sm_one (φ := fun j => ind (decide (pos j < ((T + 1 : Nat) : Int)))) (ψ := fun j => ind (decide (pos j < (T : Int)))) hi (fun j hj hne => by
          have : pos j ≠ (T : Int) := fun e => hne (D.inj _ _ hj hi (by rw [e, hp]))
          congr 1
          rw [decide_eq_decide]
          omega)]
        have t1 : decide (pos i < ((T + 1 : Nat) : Int)) = true := by rw [decide_eq_true_eq]; omega
        have t2 : decide (pos i < (T : Int)) = false := by rw [decide_eq_false_iff_not]; omega
        rw [t1, t2]
        rfl
      rw [e1, e2, ih, hc]
      split <;> split <;> omega
    · have hno : ∀ j, j < n → pos j ≠ (T : Int) := fun j hj e => hex ⟨j, hj, e⟩
      have e1 : wd n pos ((T + 1 : Nat) : Int) = wd n pos T := by
        unfold wd
        refine sm_congr fun j hj => ?_
        have := hno j hj
        by_cases c : pos j < (T : Int)
        · rw [if_pos c, if_pos (by omega)]
        · rw [if_neg c, if_neg (by omega)]
      have e2 : cnt (fun j => decide (pos j < ((T + 1 : Nat) : Int))) n = cnt (fun j => decide (pos j < (T : Int))) n := cnt_congr fun j hj => by
        have := hno j hj
        rw [decide_eq_decide]
        omega
      rw [e1, e2, ih]

/-- A word with ranks winds in one direction only, and at most once. -/
theorem drawn_winds {xs R : List Int} {n : Nat} (hl : xs.length = n) (hr : reducedB xs = true) (hR : DrawnR xs R n) :
    ∃ s : Int, (s = 1 ∨ s = -1) ∧ ∀ m : Nat, wsum xs m n = 0 ∨ wsum xs m n = s := by
  obtain ⟨_, hn, hrng⟩ := red_rng hr
  rw [hl] at hn
  obtain ⟨h1, h2⟩ := (drawnR_iff hn).1 hR
  have D := dr_of hl hn hr h1 h2
  refine ⟨1 - 2 * (lft n (posOf xs R) 0 % 2), by omega, fun m => ?_⟩
  have hp : ∀ i, i < n → 0 ≤ posOf xs R i := fun i hi => by
    have := h1.bds hi
    have := D.rng i hi
    unfold posOf
    omega
  have hw := D.wind hp (401 * (m + 1))
  have e : wsum xs m n = wd n (posOf xs R) ((401 * (m + 1) : Nat) : Int) := by
    have key : ∀ k, k ≤ n → wsum xs m k = sm (fun i => if posOf xs R i < ((401 * (m + 1) : Nat) : Int) then 1 - 2 * ((i : Int) % 2) else 0) k := by
      intro k
      induction k with
      | zero => intro _; rfl
      | succ k ih =>
        intro hk
        rw [wsum, sm, ih (by omega)]
        have b := h1.bds (i := k) (by omega)
        have hg : gt xs k = xs.getD k 0 := rfl
        congr 1
        by_cases c : xs.getD k 0 ≤ (m : Int)
        · rw [if_pos c, if_pos (by unfold posOf; rw [hg]; omega)]
        · rw [if_neg c, if_neg (by unfold posOf; rw [hg]; omega)]
    exact key n (Nat.le_refl _)
  rw [e, hw]
  split
  · exact .inl rfl
  · exact .inr rfl

end Go.Proofs.YtenomnkdfiojbaaDoor
