/-
  Plain mathematics of words, more: a map of letters and the normal form; sums with alternating signs.
-/
import Derived.Test.YtenomnkdfiojbaaDoorLn
namespace Go.Proofs.YtenomnkdfiojbaaDoor.Ln

theorem map_rot1 (φ : Int → Int) (l : List Int) : (rot1 l).map φ = rot1 (l.map φ) := by cases l <;> simp [rot1]
theorem map_rotN (φ : Int → Int) (k : Nat) (l : List Int) : (rotN k l).map φ = rotN k (l.map φ) := by
  induction k generalizing l with
  | zero => rfl
  | succ k ih => rw [rotN, rotN, ih, map_rot1]

theorem stk_map_snoc (φ : Int → Int) (w : List Int) : stk ((stk w).map φ) = stk (w.map φ) := by
  have h : ∀ (n : Nat) (w : List Int), w.length = n → stk ((stk w).map φ) = stk (w.map φ) := by
    intro n
    induction n with
    | zero => intro w hw; have : w = [] := List.eq_nil_of_length_eq_zero hw; subst this; rfl
    | succ n ih =>
      intro w hw
      have hne : w ≠ [] := by intro e; subst e; simp at hw
      obtain ⟨l, g, rfl⟩ : ∃ l g, w = l ++ [g] := ⟨w.dropLast, w.getLast hne, (List.dropLast_concat_getLast hne).symm⟩
      have i := ih l (by simpa using hw)
      have e1 : stk ((l ++ [g]).map φ) = stk ((stk l).map φ ++ [φ g]) := by
        rw [List.map_append, ← stk_append_left, ← i, stk_append_left]; rfl
      rw [e1]
      rcases pushR_cases (redR l) g with ⟨r, hr, hp⟩ | hp
      · have e2 : stk (l ++ [g]) = r.reverse := by simp only [stk, redR_snoc, hp]
        have e3 : stk l = r.reverse ++ [g] := by simp only [stk, hr, List.reverse_cons]
        rw [e2, e3, List.map_append]
        have h := redR_pair (r.reverse.map φ) [] (φ g)
        have q : r.reverse.map φ ++ [g].map φ ++ [φ g] = r.reverse.map φ ++ φ g :: φ g :: [] := by simp
        rw [q]
        simp only [stk, h, List.append_nil]
      · have e2 : stk (l ++ [g]) = stk l ++ [g] := by simp only [stk, redR_snoc, hp, List.reverse_cons]
        rw [e2, List.map_append]; rfl
  exact h _ w rfl
theorem normal_map_stk (φ : Int → Int) (w : List Int) : normal ((stk w).map φ) = normal (w.map φ) := by
  simp only [normal, stk_map_snoc]

theorem exists_rot1 (l : List Int) : ∃ l', rot1 l' = l ∧ l'.length = l.length := by
  cases e : l.reverse with
  | nil => have : l = [] := by simpa using e
           subst this; exact ⟨[], rfl, rfl⟩
  | cons a r =>
    have hl : l = r.reverse ++ [a] := by have := congrArg List.reverse e; simpa using this
    exact ⟨a :: r.reverse, by rw [rot1_cons, hl], by rw [hl]; simp⟩

theorem normal_rot1_rot1 (l : List Int) (he : l.length % 2 = 0) : normal (rot1 (rot1 l)) = normal l := normal_rotN2 l he

theorem normal_map_core (φ : Int → Int) : ∀ (n : Nat) (s : List Int), s.length ≤ n → s.length % 2 = 0 →
    normal ((core s).map φ) = normal (s.map φ) ∧ normal (rot1 ((core s).map φ)) = normal (rot1 (s.map φ)) := by
  intro n
  induction n with
  | zero => intro s h _; have : s = [] := List.eq_nil_of_length_eq_zero (by omega); subst this; exact ⟨rfl, rfl⟩
  | succ n ih =>
    intro s h he
    cases s with
    | nil => exact ⟨rfl, rfl⟩
    | cons a l =>
      by_cases c : l = [] ∨ l.getLast? ≠ some a
      · have : core (a :: l) = a :: l := by unfold core; rw [ends_not a l c]; rfl
        rw [this]; exact ⟨rfl, rfl⟩
      · have c2 : l.getLast? = some a := Classical.byContradiction fun e => c (.inr e)
        obtain ⟨m, rfl⟩ := List.getLast?_eq_some_iff.1 c2
        have hm : m.length % 2 = 0 := by simp at he; omega
        obtain ⟨i1, i2⟩ := ih m (by simp at h; omega) hm
        have hc : core (a :: (m ++ [a])) = rot1 (core m) := by
          unfold core
          rw [ends_both]
          show rotN ((ends m).1 + 1) _ = _
          rw [rotN_add]; rfl
        have hmm : (m.map φ).length % 2 = 0 := by rw [List.length_map]; exact hm
        have hcm : ((core m).map φ).length % 2 = 0 := by rw [List.length_map, length_core]; exact hm
        rw [hc, map_rot1]
        constructor
        · rw [i2]
          obtain ⟨l', hl', hlen⟩ := exists_rot1 (m.map φ)
          have e : (a :: (m ++ [a])).map φ = φ a :: (rot1 l' ++ [φ a]) := by rw [hl']; simp
          rw [e, normal_ends l' (by rw [hlen]; exact hmm), ← hl', normal_rot1_rot1 l' (by rw [hlen]; exact hmm)]
        · rw [normal_rot1_rot1 _ hcm, i1]
          have e : rot1 ((a :: (m ++ [a])).map φ) = m.map φ ++ φ a :: φ a :: [] := by simp [rot1]
          rw [e, normal_pair, List.append_nil]

/-- A map of letters sees the word as its normal form. -/
theorem normal_map_normal (φ : Int → Int) (w : List Int) (he : w.length % 2 = 0) : normal ((normal w).map φ) = normal (w.map φ) := by
  have hs : (stk w).length % 2 = 0 := by rw [(length_stk w).1]; exact he
  have hc : (core2 (stk w)).length % 2 = 0 := by rw [(length_core2 _).1]; exact hs
  have hcm : ((core2 (stk w)).map φ).length % 2 = 0 := by rw [List.length_map]; exact hc
  have h1 : normal ((core2 (stk w)).map φ) = normal (w.map φ) := by
    rw [← normal_map_stk φ w, ← (normal_map_core φ _ (stk w) (Nat.le_refl _) hs).1]
    obtain ⟨j, hj⟩ := core_ev (stk w)
    rw [hj, map_rotN]
    exact (normal_ev hcm ⟨j, rfl⟩).symm
  rcases (isLeast_least (core2 (stk w)) hc).1 with ⟨j, e⟩ | ⟨j, e⟩
  · show normal ((least (core2 (stk w))).map φ) = _
    rw [e, map_rotN, normal_ev hcm ⟨j, rfl⟩, h1]
  · show normal ((least (core2 (stk w))).map φ) = _
    rw [e, map_rotN, normal_ev (w := (core2 (stk w)).reverse.map φ) (by simpa using hc) ⟨j, rfl⟩, List.map_reverse, normal_reverse _ hcm, h1]

/-- A word of equal letters has the empty normal form. -/
theorem normal_const (w : List Int) (he : w.length % 2 = 0) (a : Int) (h : ∀ x, x ∈ w → x = a) : normal w = [] := by
  have hc := cyc_normal w he
  rcases Nat.eq_zero_or_pos (normal w).length with h0 | hp
  · exact List.eq_nil_of_length_eq_zero h0
  · exfalso
    have h1 := hc 0 hp
    have hm : (0 + 1) % (normal w).length < (normal w).length := Nat.mod_lt _ hp
    rw [List.getElem?_eq_getElem hp, List.getElem?_eq_getElem hm] at h1
    apply h1
    rw [h _ (mem_normal he (List.getElem_mem hp)), h _ (mem_normal he (List.getElem_mem hm))]

/-- The sum with alternating signs of what letters count. -/
def alt (c : Int → Int) : List Int → Int
  | [] => 0
  | x :: l => c x - alt c l
theorem alt_append (c : Int → Int) (u v : List Int) : alt c (u ++ v) = alt c u + (if u.length % 2 = 0 then alt c v else - alt c v) := by
  induction u with
  | nil => simp [alt]
  | cons x u ih =>
    simp only [List.cons_append, alt, ih, List.length_cons]
    rcases Nat.mod_two_eq_zero_or_one u.length with e | e
    · have : ¬ (u.length + 1) % 2 = 0 := by omega
      rw [if_pos e, if_neg this]; omega
    · have h1 : ¬ u.length % 2 = 0 := by omega
      have h2 : (u.length + 1) % 2 = 0 := by omega
      rw [if_neg h1, if_pos h2]; omega
theorem alt_pair (c : Int → Int) (u v : List Int) (g : Int) : alt c (u ++ g :: g :: v) = alt c (u ++ v) := by
  rw [alt_append, alt_append]
  have : alt c (g :: g :: v) = alt c v := by simp only [alt]; omega
  rw [this]
theorem alt_rot1 (c : Int → Int) (w : List Int) (he : w.length % 2 = 0) : alt c (rot1 w) = - alt c w := by
  cases w with
  | nil => rfl
  | cons x l =>
    rw [rot1_cons, alt_append]
    have : ¬ l.length % 2 = 0 := by simp at he; omega
    rw [if_neg this]
    simp only [alt]; omega
theorem alt_rotN (c : Int → Int) (k : Nat) (w : List Int) (he : w.length % 2 = 0) : alt c (rotN k w) = if k % 2 = 0 then alt c w else - alt c w := by
  induction k generalizing w with
  | zero => simp [rotN]
  | succ k ih =>
    rw [rotN, ih _ (by rw [length_rot1]; exact he), alt_rot1 c w he]
    by_cases e : k % 2 = 0
    · rw [if_pos e, if_neg (by omega)]
    · rw [if_neg e, if_pos (by omega)]; omega
theorem alt_reverse (c : Int → Int) (w : List Int) : alt c w.reverse = if w.length % 2 = 0 then - alt c w else alt c w := by
  induction w with
  | nil => rfl
  | cons x l ih =>
    rw [List.reverse_cons, alt_append, ih, List.length_reverse]
    simp only [alt, List.length_cons]
    by_cases e : l.length % 2 = 0
    · rw [if_pos e, if_pos e, if_neg (by omega)]; omega
    · rw [if_neg e, if_neg e, if_pos (by omega)]; omega
theorem alt_stk (c : Int → Int) (w : List Int) : alt c (stk w) = alt c w := by
  have h : ∀ (n : Nat) (w : List Int), w.length = n → alt c (stk w) = alt c w := by
    intro n
    induction n with
    | zero => intro w hw; have : w = [] := List.eq_nil_of_length_eq_zero hw; subst this; rfl
    | succ n ih =>
      intro w hw
      have hne : w ≠ [] := by intro e; subst e; simp at hw
      obtain ⟨l, g, rfl⟩ : ∃ l g, w = l ++ [g] := ⟨w.dropLast, w.getLast hne, (List.dropLast_concat_getLast hne).symm⟩
      have i := ih l (by simpa using hw)
      have hpar := (length_stk l).1
      have e0 : alt c (l ++ [g]) = alt c (stk l ++ [g]) := by rw [alt_append, alt_append, i, hpar]
      rw [e0]
      rcases pushR_cases (redR l) g with ⟨r, hr, hp⟩ | hp
      · have e2 : stk (l ++ [g]) = r.reverse := by simp only [stk, redR_snoc, hp]
        have e3 : stk l = r.reverse ++ [g] := by simp only [stk, hr, List.reverse_cons]
        rw [e2, e3]
        have := alt_pair c r.reverse [] g
        rw [List.append_nil] at this
        rw [← this]; simp
      · have e2 : stk (l ++ [g]) = stk l ++ [g] := by simp only [stk, redR_snoc, hp, List.reverse_cons]
        rw [e2]
  exact h _ w rfl
theorem alt_core (c : Int → Int) : ∀ (n : Nat) (s : List Int), s.length ≤ n → s.length % 2 = 0 → alt c (core s) = alt c s := by
  intro n
  induction n with
  | zero => intro s h _; have : s = [] := List.eq_nil_of_length_eq_zero (by omega); subst this; rfl
  | succ n ih =>
    intro s h he
    cases s with
    | nil => rfl
    | cons a l =>
      by_cases k : l = [] ∨ l.getLast? ≠ some a
      · have : core (a :: l) = a :: l := by unfold core; rw [ends_not a l k]; rfl
        rw [this]
      · have c2 : l.getLast? = some a := Classical.byContradiction fun e => k (.inr e)
        obtain ⟨m, rfl⟩ := List.getLast?_eq_some_iff.1 c2
        have hm : m.length % 2 = 0 := by simp at he; omega
        have i1 := ih m (by simp at h; omega) hm
        have hc : core (a :: (m ++ [a])) = rot1 (core m) := by
          unfold core
          rw [ends_both]
          show rotN ((ends m).1 + 1) _ = _
          rw [rotN_add]; rfl
        rw [hc, alt_rot1 _ _ (by rw [length_core]; exact hm), i1]
        simp only [alt, alt_append, hm, if_true]; omega
/-- The normal form counts the same, up to one sign. -/
theorem alt_normal (w : List Int) (he : w.length % 2 = 0) : (∀ c, alt c (normal w) = alt c w) ∨ (∀ c, alt c (normal w) = - alt c w) := by
  have hs : (stk w).length % 2 = 0 := by rw [(length_stk w).1]; exact he
  have hc : (core2 (stk w)).length % 2 = 0 := by rw [(length_core2 _).1]; exact hs
  have h1 : ∀ c, alt c (core2 (stk w)) = alt c w := fun c => by
    have e1 := alt_core c _ (stk w) (Nat.le_refl _) hs
    obtain ⟨j, hj⟩ := core_ev (stk w)
    rw [hj, alt_rotN c _ _ hc, if_pos (by omega)] at e1
    rw [e1, alt_stk]
  rcases (isLeast_least (core2 (stk w)) hc).1 with ⟨j, e⟩ | ⟨j, e⟩
  · refine .inl fun c => ?_
    show alt c (least (core2 (stk w))) = _
    rw [e, alt_rotN c _ _ hc, if_pos (by omega), h1]
  · refine .inr fun c => ?_
    show alt c (least (core2 (stk w))) = _
    rw [e, alt_rotN c _ _ (by simpa using hc), if_pos (by omega), alt_reverse, if_pos hc, h1]

end Go.Proofs.YtenomnkdfiojbaaDoor.Ln
