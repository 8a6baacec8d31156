/-
  Plain mathematics of words (lists of letters): free reduction with a stack, the cut of equal ends, rotations, the least one of them, the normal form; the reference's steps lead to the same form. Nothing of the program stands here.
-/
namespace Go.Proofs.YtbbpockkafbfmaaDoor.Ln

/-- One letter more on a stack whose top is the head. -/
def pushR (s : List Int) (g : Int) : List Int :=
  match s with
  | [] => [g]
  | t :: r => if t = g then r else g :: t :: r

/-- The stack behind a word, its top first. -/
def redR (w : List Int) : List Int := w.foldl pushR []

/-- The stack behind a word. -/
def stk (w : List Int) : List Int := (redR w).reverse

/-- No two neighbors are equal (not cyclically). -/
def nd : List Int → Prop
  | a :: b :: l => a ≠ b ∧ nd (b :: l)
  | _ => True

theorem nd_tail {a : Int} {l : List Int} (h : nd (a :: l)) : nd l := by
  cases l with
  | nil => trivial
  | cons b r => exact h.2

theorem nd_pushR {s : List Int} (h : nd s) (g : Int) : nd (pushR s g) := by
  cases s with
  | nil => trivial
  | cons t r =>
    simp only [pushR]
    by_cases e : t = g
    · rw [if_pos e]; exact nd_tail h
    · rw [if_neg e]; exact ⟨fun x => e x.symm, h⟩

theorem nd_foldl {s : List Int} (h : nd s) (w : List Int) : nd (w.foldl pushR s) := by
  induction w generalizing s with
  | nil => exact h
  | cons a l ih => exact ih (nd_pushR h a)

theorem nd_redR (w : List Int) : nd (redR w) := nd_foldl (s := []) trivial w

theorem pushR_pushR {s : List Int} (h : nd s) (g : Int) : pushR (pushR s g) g = s := by
  cases s with
  | nil => simp [pushR]
  | cons t r =>
    by_cases e : t = g
    · subst e
      cases r with
      | nil => simp [pushR]
      | cons u r =>
        have hu : ¬ u = t := fun x => h.1 x.symm
        simp [pushR, hu]
    · simp [pushR, e]

theorem foldl_pair {s : List Int} (h : nd s) (u v : List Int) (g : Int) : (u ++ g :: g :: v).foldl pushR s = (u ++ v).foldl pushR s := by
  rw [List.foldl_append, List.foldl_append, List.foldl_cons, List.foldl_cons, pushR_pushR (nd_foldl h u)]

theorem redR_pair (u v : List Int) (g : Int) : redR (u ++ g :: g :: v) = redR (u ++ v) := foldl_pair (s := []) trivial u v g

theorem pushR_cases (s : List Int) (g : Int) : (∃ r, s = g :: r ∧ pushR s g = r) ∨ pushR s g = g :: s := by
  cases s with
  | nil => exact .inr rfl
  | cons t r =>
    by_cases e : t = g
    · subst e; exact .inl ⟨r, rfl, by simp [pushR]⟩
    · exact .inr (by simp [pushR, e])

theorem redR_snoc (w : List Int) (g : Int) : redR (w ++ [g]) = pushR (redR w) g := by simp [redR, List.foldl_append]

/-- A stack does not tell a word from its reduced form. -/
theorem foldl_stk {s : List Int} (h : nd s) (w : List Int) : (stk w).foldl pushR s = w.foldl pushR s := by
  have gen : ∀ (n : Nat) (w : List Int), w.length = n → (stk w).foldl pushR s = w.foldl pushR s := by
    intro n
    induction n with
    | zero =>
      intro w hw
      have : w = [] := List.eq_nil_of_length_eq_zero hw
      subst this; rfl
    | succ n ih =>
      intro w hw
      have hne : w ≠ [] := by intro e; subst e; simp at hw
      obtain ⟨l, g, rfl⟩ : ∃ l g, w = l ++ [g] := ⟨w.dropLast, w.getLast hne, (List.dropLast_concat_getLast hne).symm⟩
      have hl : l.length = n := by simpa using hw
      have i := ih l hl
      rw [List.foldl_append, ← i]
      rcases pushR_cases (redR l) g with ⟨r, hr, hp⟩ | hp
      · have e1 : stk (l ++ [g]) = r.reverse := by simp only [stk, redR_snoc, hp]
        have e2 : stk l = r.reverse ++ [g] := by simp only [stk, hr, List.reverse_cons]
        rw [e1, e2, List.foldl_append]
        simp only [List.foldl_cons, List.foldl_nil]
        rw [pushR_pushR (nd_foldl h _)]
      · have e1 : stk (l ++ [g]) = stk l ++ [g] := by simp only [stk, redR_snoc, hp, List.reverse_cons]
        rw [e1, List.foldl_append]
  exact gen _ w rfl

theorem redR_stk (w : List Int) : redR (stk w) = redR w := foldl_stk (s := []) trivial w
theorem stk_stk (w : List Int) : stk (stk w) = stk w := by show (redR (stk w)).reverse = _; rw [redR_stk]; rfl

theorem stk_append_left (u v : List Int) : stk (stk u ++ v) = stk (u ++ v) := by
  simp only [stk, redR, List.foldl_append]
  have := redR_stk u
  simp only [stk, redR] at this
  rw [this]
theorem stk_append_right (u v : List Int) : stk (u ++ stk v) = stk (u ++ v) := by
  have h := foldl_stk (nd_redR u) v
  simp only [stk, redR, List.foldl_append] at h ⊢
  rw [h]

/-- Turned round: no two neighbors are equal. -/
theorem nd_snoc2 (l : List Int) (a b : Int) : nd (l ++ [a, b]) ↔ nd (l ++ [a]) ∧ a ≠ b := by
  induction l with
  | nil => simp [nd]
  | cons c r ih =>
    cases r with
    | nil => simp [nd]
    | cons d r =>
      simp only [List.cons_append] at ih ⊢
      simp only [nd, ih]
      constructor
      · rintro ⟨h1, h2, h3⟩; exact ⟨⟨h1, h2⟩, h3⟩
      · rintro ⟨⟨h1, h2⟩, h3⟩; exact ⟨h1, h2, h3⟩

theorem nd_reverse : ∀ (n : Nat) (l : List Int), l.length = n → nd l → nd l.reverse := by
  intro n
  induction n with
  | zero => intro l hl _; have : l = [] := List.eq_nil_of_length_eq_zero hl; subst this; trivial
  | succ n ih =>
    intro l hl h
    match l, hl, h with
    | [a], _, _ => trivial
    | a :: b :: r, hl, h =>
      have h1 := ih (b :: r) (by simpa using hl) h.2
      have : (a :: b :: r).reverse = r.reverse ++ [b, a] := by simp
      rw [this, nd_snoc2]
      refine ⟨?_, fun e => h.1 e.symm⟩
      simpa using h1

theorem nd_rev {l : List Int} (h : nd l) : nd l.reverse := nd_reverse _ l rfl h
theorem nd_stk (w : List Int) : nd (stk w) := nd_rev (nd_redR w)

/-- A reduced list is its own stack. -/
theorem redR_nd : ∀ (l : List Int), nd l → redR l = l.reverse := by
  intro l h
  have gen : ∀ (n : Nat) (l : List Int), l.length = n → nd l → redR l = l.reverse := by
    intro n
    induction n with
    | zero => intro l hl _; have : l = [] := List.eq_nil_of_length_eq_zero hl; subst this; rfl
    | succ n ih =>
      intro w hw h
      have hne : w ≠ [] := by intro e; subst e; simp at hw
      obtain ⟨l, g, rfl⟩ : ∃ l g, w = l ++ [g] := ⟨w.dropLast, w.getLast hne, (List.dropLast_concat_getLast hne).symm⟩
      have hr := nd_rev h
      simp only [List.reverse_append, List.reverse_cons, List.reverse_nil, List.nil_append, List.cons_append] at hr
      have hl : nd l := by have := nd_rev (nd_tail hr); simpa using this
      rw [redR_snoc, ih l (by simpa using hw) hl]
      simp only [List.reverse_append, List.reverse_cons, List.reverse_nil, List.nil_append, List.cons_append]
      rcases e : l.reverse with _ | ⟨t, r⟩
      · rfl
      · rw [e] at hr
        have : ¬ t = g := fun x => hr.1 x.symm
        simp [pushR, this]
  exact gen _ l rfl h
theorem stk_nd {l : List Int} (h : nd l) : stk l = l := by simp [stk, redR_nd l h]

theorem length_pushR (s : List Int) (g : Int) : (pushR s g).length % 2 = (s.length + 1) % 2 ∧ (pushR s g).length ≤ s.length + 1 := by
  rcases pushR_cases s g with ⟨r, rfl, h⟩ | h
  · rw [h]; simp; omega
  · rw [h]; simp
theorem length_redR_aux (w : List Int) (s : List Int) : (w.foldl pushR s).length % 2 = (s.length + w.length) % 2 ∧ (w.foldl pushR s).length ≤ s.length + w.length := by
  induction w generalizing s with
  | nil => simp
  | cons a l ih =>
    have h1 := ih (pushR s a)
    have h2 := length_pushR s a
    simp only [List.foldl_cons, List.length_cons]
    omega
theorem length_stk (w : List Int) : (stk w).length % 2 = w.length % 2 ∧ (stk w).length ≤ w.length := by
  have := length_redR_aux w []
  simp only [stk, redR, List.length_reverse]
  simpa using this

theorem mem_pushR {s : List Int} {g x : Int} (h : x ∈ pushR s g) : x = g ∨ x ∈ s := by
  rcases pushR_cases s g with ⟨r, rfl, e⟩ | e
  · rw [e] at h; exact .inr (List.mem_cons_of_mem _ h)
  · rw [e] at h; simpa using h
theorem mem_foldl {w s : List Int} {x : Int} (h : x ∈ w.foldl pushR s) : x ∈ w ∨ x ∈ s := by
  induction w generalizing s with
  | nil => exact .inr h
  | cons a l ih =>
    rcases ih h with h | h
    · exact .inl (List.mem_cons_of_mem _ h)
    · rcases mem_pushR h with h | h
      · subst h; exact .inl (List.mem_cons_self ..)
      · exact .inr h
theorem mem_stk {w : List Int} {x : Int} (h : x ∈ stk w) : x ∈ w := by
  have : x ∈ redR w := by simpa [stk] using h
  rcases mem_foldl this with h | h
  · exact h
  · simp at h

/-- The stack of a list that is read backwards is the stack backwards. -/
theorem stk_reverse (w : List Int) : stk w.reverse = (stk w).reverse := by
  have h : ∀ (n : Nat) (w : List Int), w.length = n → stk w.reverse = (stk w).reverse := by
    intro n
    induction n with
    | zero => intro w hw; have : w = [] := List.eq_nil_of_length_eq_zero hw; subst this; rfl
    | succ n ih =>
      intro w hw
      have hne : w ≠ [] := by intro e; subst e; simp at hw
      obtain ⟨l, g, rfl⟩ : ∃ l g, w = l ++ [g] := ⟨w.dropLast, w.getLast hne, (List.dropLast_concat_getLast hne).symm⟩
      have i := ih l (by simpa using hw)
      have e1 : stk (l ++ [g]).reverse = stk ([g] ++ (stk l).reverse) := by
        rw [← i, stk_append_right]; simp
      rw [e1]
      rcases pushR_cases (redR l) g with ⟨r, hr, hp⟩ | hp
      · have e2 : stk (l ++ [g]) = r.reverse := by simp only [stk, redR_snoc, hp]
        have e3 : (stk l).reverse = g :: r := by simp [stk, hr]
        rw [e2, e3]
        have : stk ([g] ++ g :: r) = stk r := by
          have := redR_pair [] r g
          simp only [stk]; simpa using congrArg List.reverse this
        rw [this, stk_nd, List.reverse_reverse]
        have hn := nd_redR l; rw [hr] at hn; exact nd_tail hn
      · have e2 : stk (l ++ [g]) = stk l ++ [g] := by simp only [stk, redR_snoc, hp, List.reverse_cons]
        rw [e2]
        have e3 : (stk l ++ [g]).reverse = [g] ++ (stk l).reverse := by simp
        rw [e3, stk_nd]
        have hn := nd_redR (l ++ [g]); rw [redR_snoc, hp] at hn
        simpa [stk] using hn
  exact h _ w rfl


/-- One letter from the front to the back. -/
def rot1 (l : List Int) : List Int := l.drop 1 ++ l.take 1
def rotN : Nat → List Int → List Int
  | 0, l => l
  | k + 1, l => rotN k (rot1 l)

theorem rot1_cons (a : Int) (l : List Int) : rot1 (a :: l) = l ++ [a] := rfl
theorem rot1_nil : rot1 [] = [] := rfl
theorem length_rot1 (l : List Int) : (rot1 l).length = l.length := by cases l <;> simp [rot1]
theorem length_rotN (k : Nat) (l : List Int) : (rotN k l).length = l.length := by
  induction k generalizing l with
  | zero => rfl
  | succ k ih => rw [rotN, ih, length_rot1]
theorem rotN_add (i j : Nat) (l : List Int) : rotN (i + j) l = rotN j (rotN i l) := by
  induction i generalizing l with
  | zero => simp [rotN]
  | succ i ih => rw [Nat.succ_add, rotN, rotN, ih]
theorem rotN_append (a b : List Int) : rotN a.length (a ++ b) = b ++ a := by
  induction a generalizing b with
  | nil => simp [rotN]
  | cons x a ih =>
    rw [List.length_cons, rotN, List.cons_append, rot1_cons, List.append_assoc, ih]
    simp
theorem rotN_len (l : List Int) : rotN l.length l = l := by have := rotN_append l []; simpa using this
theorem rotN_drop (l : List Int) (k : Nat) (h : k ≤ l.length) : rotN k l = l.drop k ++ l.take k := by
  have h1 := rotN_append (l.take k) (l.drop k)
  rw [List.take_append_drop] at h1
  have : (l.take k).length = k := by simp; omega
  rw [this] at h1
  exact h1
theorem rotN_mul (l : List Int) (m : Nat) : rotN (m * l.length) l = l := by
  induction m with
  | zero => simp [rotN]
  | succ m ih => rw [Nat.succ_mul, rotN_add, ih, rotN_len]
theorem mem_rot1 {l : List Int} {x : Int} : x ∈ rot1 l ↔ x ∈ l := by
  cases l with
  | nil => rfl
  | cons a l => rw [rot1_cons]; simp only [List.mem_append, List.mem_cons, List.not_mem_nil, or_false]; exact Or.comm
theorem mem_rotN {k : Nat} {l : List Int} {x : Int} : x ∈ rotN k l ↔ x ∈ l := by
  induction k generalizing l with
  | zero => rfl
  | succ k ih => rw [rotN, ih, mem_rot1]

/-- Words that are one word but for an even number of letters that have gone from the front to the back. -/
def Ev (r r' : List Int) : Prop := ∃ j, r' = rotN (2 * j) r
theorem Ev.refl (r : List Int) : Ev r r := ⟨0, rfl⟩
theorem Ev.trans {a b c : List Int} : Ev a b → Ev b c → Ev a c := by
  rintro ⟨i, rfl⟩ ⟨j, rfl⟩
  exact ⟨i + j, by rw [Nat.mul_add, rotN_add]⟩
theorem Ev.length {a b : List Int} : Ev a b → b.length = a.length := by
  rintro ⟨i, rfl⟩; exact length_rotN _ _
theorem Ev.symm {a b : List Int} (he : a.length % 2 = 0) : Ev a b → Ev b a := by
  rintro ⟨i, rfl⟩
  -- 2 * i more letters up to a multiple of the length
  refine ⟨i * a.length - i, ?_⟩
  rw [← rotN_add]
  rcases Nat.eq_zero_or_pos a.length with h0 | hp
  · have : a = [] := List.eq_nil_of_length_eq_zero h0
    subst this
    have : ∀ k, rotN k [] = [] := fun k => by induction k with | zero => rfl | succ k ih => rw [rotN, rot1_nil, ih]
    rw [this]
  · have hle : i ≤ i * a.length := Nat.le_mul_of_pos_right i hp
    have : 2 * i + 2 * (i * a.length - i) = (2 * i) * a.length := by
      rw [Nat.mul_assoc]; omega
    rw [this, rotN_mul]
theorem Ev.rot {a b : List Int} (h : Ev a b) (k : Nat) : Ev (rotN k a) (rotN k b) := by
  obtain ⟨i, rfl⟩ := h
  exact ⟨i, by rw [← rotN_add, ← rotN_add, Nat.add_comm]⟩
theorem Ev.of_rot2 (r : List Int) (c : Nat) : Ev (rotN (c % 2) r) (rotN c r) := by
  refine ⟨c / 2, ?_⟩
  rw [← rotN_add]
  congr 1
  omega

/-- How many letters at the ends are equal in pairs; and what is between them. -/
def cutL : Nat → List Int → Nat × List Int
  | 0, s => (0, s)
  | f + 1, s =>
    match s with
    | [] => (0, [])
    | a :: l => if l ≠ [] ∧ l.getLast? = some a then ((cutL f l.dropLast).1 + 1, (cutL f l.dropLast).2) else (0, a :: l)

def ends (s : List Int) : Nat × List Int := cutL s.length s

theorem cutL_fuel : ∀ (f f' : Nat) (s : List Int), s.length ≤ f → s.length ≤ f' → cutL f s = cutL f' s := by
  intro f
  induction f with
  | zero =>
    intro f' s h _
    have : s = [] := List.eq_nil_of_length_eq_zero (by omega)
    subst this
    cases f' <;> rfl
  | succ f ih =>
    intro f' s h h'
    cases s with
    | nil => cases f' <;> rfl
    | cons a l =>
      cases f' with
      | zero => simp at h'
      | succ f' =>
        simp only [List.length_cons] at h h'
        have := ih f' l.dropLast (by simp; omega) (by simp; omega)
        simp only [cutL, this]

theorem ends_both (a : Int) (m : List Int) : ends (a :: (m ++ [a])) = ((ends m).1 + 1, (ends m).2) := by
  simp only [ends, List.length_cons, cutL]
  rw [if_pos ⟨by simp, by simp⟩]
  have : (m ++ [a]).dropLast = m := by simp
  rw [this, cutL_fuel (m ++ [a]).length m.length m (by simp) (Nat.le_refl _)]
theorem ends_not (a : Int) (l : List Int) (h : l = [] ∨ l.getLast? ≠ some a) : ends (a :: l) = (0, a :: l) := by
  simp only [ends, List.length_cons, cutL]
  rw [if_neg]
  rintro ⟨h1, h2⟩
  rcases h with h | h
  · exact h1 h
  · exact h h2
theorem ends_nil : ends [] = (0, []) := rfl

/-- The reduced word of a stack, turned by one letter for each pair that is cut away. -/
def core (s : List Int) : List Int := rotN (ends s).1 (ends s).2
def core2 (s : List Int) : List Int := rotN ((ends s).1 % 2) (ends s).2
theorem core_ev (s : List Int) : Ev (core2 s) (core s) := Ev.of_rot2 _ _

theorem length_ends : ∀ (n : Nat) (s : List Int), s.length ≤ n → (ends s).2.length + 2 * (ends s).1 = s.length := by
  intro n
  induction n with
  | zero => intro s h; have : s = [] := List.eq_nil_of_length_eq_zero (by omega); subst this; rfl
  | succ n ih =>
    intro s h
    cases s with
    | nil => rfl
    | cons a l =>
      by_cases c : l = [] ∨ l.getLast? ≠ some a
      · rw [ends_not a l c]; simp
      · have c1 : l ≠ [] := fun e => c (.inl e)
        have c2 : l.getLast? = some a := Classical.byContradiction fun e => c (.inr e)
        obtain ⟨m, rfl⟩ := List.getLast?_eq_some_iff.1 c2
        have := ih m (by simp at h; omega)
        rw [ends_both]
        simp
        omega
theorem length_core (s : List Int) : (core s).length % 2 = s.length % 2 := by
  have := length_ends _ s (Nat.le_refl _)
  unfold core
  rw [length_rotN]
  omega
theorem length_core2 (s : List Int) : (core2 s).length % 2 = s.length % 2 ∧ (core2 s).length ≤ s.length := by
  have := length_ends _ s (Nat.le_refl _)
  unfold core2
  rw [length_rotN]
  omega

/-- The stack of a word whose first letter has gone to the back: its core is turned by one letter. -/
theorem core_conj (x : Int) (v : List Int) (he : v.length % 2 = 1) : Ev (rotN 1 (core (stk (x :: v)))) (core (stk (v ++ [x]))) := by
  have e1 : stk (x :: v) = stk ([x] ++ stk v) := by rw [stk_append_right]; rfl
  have e2 : stk (v ++ [x]) = stk (stk v ++ [x]) := by rw [stk_append_left]
  have hm := nd_stk v
  have ho : (stk v).length % 2 = 1 := by rw [(length_stk v).1]; exact he
  rw [e1, e2]
  generalize stk v = m at hm ho
  clear e1 e2
  cases m with
  | nil => simp at ho
  | cons a m =>
    by_cases ha : a = x
    · subst ha
      have s1 : stk ([a] ++ a :: m) = m := by
        have h := redR_pair [] m a
        have : stk ([a] ++ a :: m) = stk m := by simp only [stk]; simpa using congrArg List.reverse h
        rw [this, stk_nd (nd_tail hm)]
      rw [s1]
      by_cases hn : m = []
      · subst hn
        have : stk ([a] ++ [a]) = [] := by simp [stk, redR, pushR]
        rw [this]; exact Ev.refl _
      · by_cases hl : m.getLast? = some a
        · -- m = m' ++ [a], m' does not begin with a
          obtain ⟨m', rfl⟩ := List.getLast?_eq_some_iff.1 hl
          have s2 : stk (a :: (m' ++ [a]) ++ [a]) = a :: m' := by
            have h := redR_pair (a :: m') [] a
            have e : a :: (m' ++ [a]) ++ [a] = a :: m' ++ a :: a :: [] := by simp
            rw [e]
            have : stk (a :: m' ++ [a, a]) = stk (a :: m') := by simp only [stk]; simpa using congrArg List.reverse h
            rw [this, stk_nd]
            have h1 := nd_rev hm
            simp only [List.reverse_cons, List.reverse_append, List.reverse_nil, List.nil_append, List.cons_append] at h1
            have h2 := nd_rev (nd_tail h1)
            simpa using h2
          rw [s2]
          have c1 : core (m' ++ [a]) = m' ++ [a] := by
            cases m' with
            | nil => simp [core, ends_not, rotN]
            | cons b m' =>
              have : ¬ b = a := fun e => hm.1 (by simpa using e.symm)
              unfold core
              rw [List.cons_append, ends_not b (m' ++ [a]) (.inr (by simp; exact fun e => this e.symm))]
              rfl
          have c2 : core (a :: m') = a :: m' := by
            unfold core
            rw [ends_not]; · rfl
            by_cases h0 : m' = []
            · exact .inl h0
            · refine .inr ?_
              have h1 := nd_rev hm
              simp only [List.reverse_cons, List.reverse_append, List.reverse_nil, List.nil_append, List.cons_append] at h1
              rcases e : m'.reverse with _ | ⟨y, r⟩
              · simp at e; exact absurd e h0
              · rw [e] at h1
                have h2 : m' = r.reverse ++ [y] := by have := congrArg List.reverse e; simpa using this
                rw [h2]; simp
                exact fun q => h1.1 q.symm
          rw [c1, c2]
          have ev : (a :: m').length % 2 = 0 := by simp at ho ⊢; omega
          refine Ev.symm (by simp at ev ⊢; omega) ?_ |>.trans (Ev.refl _)
          refine ⟨1, ?_⟩
          show rotN 1 (m' ++ [a]) = rotN 1 (rotN 1 (a :: m'))
          rfl
        · have s2 : stk (a :: m ++ [a]) = a :: m ++ [a] := by
            rw [stk_nd]
            rcases e : m.reverse with _ | ⟨y, r⟩
            · simp at e; exact absurd e hn
            · have h2 : m = r.reverse ++ [y] := by have := congrArg List.reverse e; simpa using this
              subst h2
              have : a :: (r.reverse ++ [y]) ++ [a] = (a :: r.reverse) ++ [y, a] := by simp
              rw [this, nd_snoc2]
              refine ⟨by simpa using hm, fun q => hl (by rw [q]; simp)⟩
          rw [s2]
          have c2 : core (a :: m ++ [a]) = rotN 1 (core m) := by
            unfold core
            have := ends_both a m
            rw [List.cons_append, this]
            show rotN ((ends m).1 + 1) _ = _
            rw [← rotN_add]
          rw [c2]
          exact Ev.refl _
    · have s1 : stk ([x] ++ a :: m) = x :: a :: m := stk_nd (by exact ⟨fun e => ha e.symm, hm⟩)
      rw [s1]
      by_cases hl : (a :: m).getLast? = some x
      · obtain ⟨m', e'⟩ := List.getLast?_eq_some_iff.1 hl
        have s2 : stk (a :: m ++ [x]) = m' := by
          rw [e']
          have h := redR_pair m' [] x
          have : stk (m' ++ [x, x]) = stk m' := by simp only [stk]; simpa using congrArg List.reverse h
          have q : m' ++ [x] ++ [x] = m' ++ [x, x] := by simp
          rw [q, this, stk_nd]
          rw [e'] at hm
          have h1 := nd_rev hm
          simp only [List.reverse_append, List.reverse_cons, List.reverse_nil, List.nil_append, List.cons_append] at h1
          have := nd_rev (nd_tail h1)
          simpa using this
        rw [s2, e']
        have c1 : core (x :: (m' ++ [x])) = rotN 1 (core m') := by
          unfold core
          rw [ends_both]
          show rotN ((ends m').1 + 1) _ = _
          rw [← rotN_add]
        rw [c1]
        have lm : (core m').length % 2 = 0 := by
          rw [length_core]
          have := congrArg List.length e'
          simp at this ho
          omega
        exact Ev.symm lm ⟨1, rfl⟩
      · have s2 : stk (a :: m ++ [x]) = a :: m ++ [x] := by
          rw [stk_nd]
          rcases e : (a :: m).reverse with _ | ⟨y, r⟩
          · simp at e
          · have h2 : a :: m = r.reverse ++ [y] := by have := congrArg List.reverse e; simpa using this
            rw [h2] at hm hl ⊢
            have : r.reverse ++ [y] ++ [x] = r.reverse ++ [y, x] := by simp
            rw [this, nd_snoc2]
            refine ⟨hm, fun q => hl (by rw [q]; simp)⟩
        rw [s2]
        have c1 : core (x :: a :: m) = x :: a :: m := by
          unfold core
          rw [ends_not x (a :: m) (.inr hl)]; rfl
        have c2 : core (a :: m ++ [x]) = a :: m ++ [x] := by
          unfold core
          rw [List.cons_append, ends_not a (m ++ [x]) (.inr (by simp; exact fun e => ha e.symm))]; rfl
        rw [c1, c2]
        exact Ev.refl _


def lexLt : List Int → List Int → Bool
  | a :: l, b :: m => if a = b then lexLt l m else decide (a < b)
  | _, _ => false

theorem lexLt_irrefl (a : List Int) : lexLt a a = false := by
  induction a with
  | nil => rfl
  | cons x l ih => simp [lexLt, ih]
theorem lexLt_total : ∀ (a b : List Int), a.length = b.length → lexLt a b = false → lexLt b a = false → a = b := by
  intro a
  induction a with
  | nil => intro b h _ _; exact (List.eq_nil_of_length_eq_zero h.symm).symm
  | cons x l ih =>
    intro b h h1 h2
    cases b with
    | nil => simp at h
    | cons y m =>
      by_cases e : x = y
      · subst e
        simp only [lexLt, if_true] at h1 h2
        rw [ih m (by simpa using h) h1 h2]
      · simp only [lexLt, if_neg e, if_neg (fun q : y = x => e q.symm), decide_eq_false_iff_not] at h1 h2
        omega
theorem lexLt_trans : ∀ (a b c : List Int), a.length = b.length → b.length = c.length → lexLt a b = true → lexLt b c = true → lexLt a c = true := by
  intro a
  induction a with
  | nil => intro b c _ _ h _; simp [lexLt] at h
  | cons x l ih =>
    intro b c hab hbc h1 h2
    cases b with
    | nil => simp at hab
    | cons y m =>
      cases c with
      | nil => simp at hbc
      | cons z k =>
        simp only [lexLt] at h1 h2 ⊢
        by_cases e1 : x = y <;> by_cases e2 : y = z
        · subst e1; subst e2; simp only [if_true] at *; exact ih m k (by simpa using hab) (by simpa using hbc) h1 h2
        · subst e1; simp only [if_true, if_neg e2] at *; exact h2
        · subst e2; simp only [if_true, if_neg e1] at *; exact h1
        · simp only [if_neg e1, if_neg e2, decide_eq_true_eq] at h1 h2
          have : x ≠ z := by omega
          rw [if_neg this]; simp; omega

/-- The letter that a traveler reaches. -/
def alongI (n s i : Nat) : Nat := if s % 2 = 0 then (s + i) % n else (s + n - i) % n
def along (r : List Int) (s i : Nat) : Int := r.getD (alongI r.length s i) 0
def cand (r : List Int) (s : Nat) : List Int := (List.range r.length).map (along r s)
theorem length_cand (r : List Int) (s : Nat) : (cand r s).length = r.length := by simp [cand]

theorem rotN_getD (r : List Int) (k i : Nat) (hk : k ≤ r.length) (hi : i < r.length) : (rotN k r)[i]? = r[(k + i) % r.length]? := by
  rw [rotN_drop r k hk, List.getElem?_append, List.length_drop]
  by_cases h : i < r.length - k
  · rw [if_pos h, List.getElem?_drop, Nat.mod_eq_of_lt (by omega)]
  · rw [if_neg h, List.getElem?_take, if_pos (by omega)]
    have : (k + i) % r.length = i - (r.length - k) := by
      rw [Nat.mod_eq_sub_mod (by omega), Nat.mod_eq_of_lt (by omega)]; omega
    rw [this]

theorem cand_even (r : List Int) (s : Nat) (hs : s ≤ r.length) (he : s % 2 = 0) : cand r s = rotN s r := by
  apply List.ext_getElem?
  intro i
  by_cases hi : i < r.length
  · rw [rotN_getD r s i hs hi]
    have hm : (s + i) % r.length < r.length := Nat.mod_lt _ (by omega)
    simp [cand, hi, along, alongI, he, hm]
  · rw [List.getElem?_eq_none (by rw [length_cand]; omega), List.getElem?_eq_none (by rw [length_rotN]; omega)]
theorem cand_odd (r : List Int) (s : Nat) (hs : s < r.length) (ho : s % 2 = 1) : cand r s = rotN (r.length - 1 - s) r.reverse := by
  apply List.ext_getElem?
  intro i
  by_cases hi : i < r.length
  · rw [rotN_getD r.reverse _ i (by simp; omega) (by simpa using hi)]
    have hm : (s + r.length - i) % r.length < r.length := Nat.mod_lt _ (by omega)
    have hm2 : (r.length - 1 - s + i) % r.length < r.length := Nat.mod_lt _ (by omega)
    have hne : ¬ s % 2 = 0 := by omega
    have key : r.length - 1 - (r.length - 1 - s + i) % r.length = (s + r.length - i) % r.length := by
      by_cases h : i ≤ s
      · rw [Nat.mod_eq_of_lt (a := r.length - 1 - s + i) (by omega), Nat.mod_eq_sub_mod (by omega), Nat.mod_eq_of_lt (by omega)]; omega
      · rw [Nat.mod_eq_sub_mod (a := r.length - 1 - s + i) (by omega), Nat.mod_eq_of_lt (a := r.length - 1 - s + i - r.length) (by omega), Nat.mod_eq_of_lt (by omega)]; omega
    simp only [List.length_reverse]
    rw [List.getElem?_reverse hm2, key]
    simp [cand, hi, along, alongI, hne, hm]
  · rw [List.getElem?_eq_none (by rw [length_cand]; omega), List.getElem?_eq_none (by rw [length_rotN]; simp; omega)]

/-- The first start whose letters are least. -/
def bestTo (r : List Int) : Nat → Nat
  | 0 => 0
  | k + 1 => if lexLt (cand r k) (cand r (bestTo r k)) then k else bestTo r k
def best (r : List Int) : Nat := bestTo r r.length
def least (r : List Int) : List Int := cand r (best r)

theorem bestTo_lt (r : List Int) (k : Nat) (h : 0 < k) : bestTo r k < k := by
  induction k with
  | zero => omega
  | succ k ih =>
    simp only [bestTo]
    split
    · omega
    · rcases Nat.eq_zero_or_pos k with h0 | h0
      · subst h0; simp [bestTo]
      · have := ih h0; omega
theorem bestTo_le (r : List Int) (k : Nat) : bestTo r k ≤ k := by
  rcases Nat.eq_zero_or_pos k with h | h
  · subst h; simp [bestTo]
  · have := bestTo_lt r k h; omega
theorem bestTo_min (r : List Int) (k : Nat) : ∀ o, o < k → lexLt (cand r o) (cand r (bestTo r k)) = false := by
  induction k with
  | zero => intro o h; omega
  | succ k ih =>
    intro o ho
    simp only [bestTo]
    by_cases c : lexLt (cand r k) (cand r (bestTo r k)) = true
    · rw [if_pos c]
      by_cases e : o = k
      · subst e; exact lexLt_irrefl _
      · have h1 := ih o (by omega)
        by_cases h2 : lexLt (cand r o) (cand r k) = true
        · have := lexLt_trans _ _ _ (by rw [length_cand, length_cand]) (by rw [length_cand, length_cand]) h2 c
          rw [h1] at this; cases this
        · simpa using h2
    · rw [if_neg c]
      by_cases e : o = k
      · subst e; simpa using c
      · exact ih o (by omega)

/-- The candidates of a word: its rotations by an even number of letters, and those of its reverse. -/
def Cd (r l : List Int) : Prop := Ev r l ∨ Ev r.reverse l

theorem Ev.reverse2 (r : List Int) (he : r.length % 2 = 0) : Ev r.reverse (rotN 2 r).reverse := by
  refine Ev.symm (by simp [length_rotN]; exact he) ⟨1, ?_⟩
  match r with
  | [] => rfl
  | [a] => rfl
  | a :: b :: l =>
    show (a :: b :: l).reverse = rot1 (rot1 (l ++ [a] ++ [b]).reverse)
    simp [rot1]
theorem Ev.reverse {r r' : List Int} (he : r.length % 2 = 0) (h : Ev r r') : Ev r.reverse r'.reverse := by
  obtain ⟨j, rfl⟩ := h
  induction j generalizing r with
  | zero => exact Ev.refl _
  | succ j ih =>
    have e : rotN (2 * (j + 1)) r = rotN (2 * j) (rotN 2 r) := by rw [← rotN_add]; congr 1; omega
    rw [e]
    exact (Ev.reverse2 r he).trans (ih (by rw [length_rotN]; exact he))
theorem Cd.of_ev {r r' : List Int} (he : r.length % 2 = 0) (h : Ev r r') (l : List Int) : Cd r' l → Cd r l := by
  rintro (h1 | h1)
  · exact .inl (h.trans h1)
  · exact .inr ((h.reverse he).trans h1)
theorem Cd.length {r l : List Int} (h : Cd r l) : l.length = r.length := by
  rcases h with h | h
  · exact h.length
  · simpa using h.length

theorem rotN_mod (r : List Int) (k : Nat) : rotN k r = rotN (k % r.length) r := by
  have h : rotN k r = rotN (r.length * (k / r.length) + k % r.length) r := by rw [Nat.div_add_mod]
  rw [h, rotN_add, Nat.mul_comm, rotN_mul]
theorem even_mod (k n : Nat) (hn : n % 2 = 0) (hk : k % 2 = 0) : (k % n) % 2 = 0 := by
  have h := Nat.div_add_mod k n
  have : (n * (k / n)) % 2 = 0 := by rw [Nat.mul_mod, hn]; simp
  omega

theorem cd_cand (r : List Int) (s : Nat) (hs : s < r.length) (he : r.length % 2 = 0) : Cd r (cand r s) := by
  rcases Nat.mod_two_eq_zero_or_one s with h | h
  · rw [cand_even r s (by omega) h]
    exact .inl ⟨s / 2, by congr 1; omega⟩
  · rw [cand_odd r s hs h]
    exact .inr ⟨(r.length - 1 - s) / 2, by congr 1; omega⟩
theorem cand_of_cd {r l : List Int} (h : Cd r l) (he : r.length % 2 = 0) (hp : 0 < r.length) : ∃ s, s < r.length ∧ l = cand r s := by
  rcases h with ⟨j, rfl⟩ | ⟨j, rfl⟩
  · refine ⟨2 * j % r.length, Nat.mod_lt _ hp, ?_⟩
    rw [cand_even r _ (Nat.le_of_lt (Nat.mod_lt _ hp)) (even_mod _ _ he (by omega)), ← rotN_mod]
  · have hm : 2 * j % r.length < r.length := Nat.mod_lt _ hp
    have h2 := even_mod (2 * j) r.length he (by omega)
    refine ⟨r.length - 1 - 2 * j % r.length, by omega, ?_⟩
    rw [cand_odd r _ (by omega) (by omega)]
    have : r.length - 1 - (r.length - 1 - 2 * j % r.length) = 2 * j % r.length := by omega
    rw [this, rotN_mod r.reverse, List.length_reverse]

/-- l is the least candidate of r. -/
def IsLeast (r l : List Int) : Prop := Cd r l ∧ ∀ c, Cd r c → lexLt c l = false

theorem IsLeast.unique {r l l' : List Int} (h : IsLeast r l) (h' : IsLeast r l') : l = l' :=
  lexLt_total l l' (by rw [h.1.length, h'.1.length]) (h'.2 l h.1) (h.2 l' h'.1)
theorem isLeast_least (r : List Int) (he : r.length % 2 = 0) : IsLeast r (least r) := by
  rcases Nat.eq_zero_or_pos r.length with h0 | hp
  · have : r = [] := List.eq_nil_of_length_eq_zero h0
    subst this
    refine ⟨.inl ⟨0, rfl⟩, fun c hc => ?_⟩
    have : c = [] := List.eq_nil_of_length_eq_zero hc.length
    subst this; rfl
  · have hb := bestTo_lt r r.length hp
    refine ⟨cd_cand r _ hb he, fun c hc => ?_⟩
    obtain ⟨s, hs, rfl⟩ := cand_of_cd hc he hp
    exact bestTo_min r _ s hs
theorem IsLeast.of_ev {r r' l : List Int} (he : r.length % 2 = 0) (h : Ev r r') (hl : IsLeast r l) : IsLeast r' l := by
  have he' : r'.length % 2 = 0 := by rw [h.length]; exact he
  exact ⟨Cd.of_ev he' (h.symm he) l hl.1, fun c hc => hl.2 c (Cd.of_ev he h c hc)⟩
theorem least_ev {r r' : List Int} (he : r.length % 2 = 0) (h : Ev r r') : least r = least r' := by
  have he' : r'.length % 2 = 0 := by rw [h.length]; exact he
  exact ((isLeast_least r he).of_ev he h).unique (isLeast_least r' he')
theorem least_reverse (r : List Int) (he : r.length % 2 = 0) : least r.reverse = least r := by
  have h := isLeast_least r he
  refine (isLeast_least r.reverse (by simpa using he)).unique ⟨?_, fun c hc => h.2 c ?_⟩
  · rcases h.1 with h | h
    · exact .inr (by rw [List.reverse_reverse]; exact h)
    · exact .inl h
  · rcases hc with h | h
    · exact .inr h
    · exact .inl (by rw [List.reverse_reverse] at h; exact h)

/-- THE NORMAL FORM. -/
def normal (w : List Int) : List Int := least (core2 (stk w))

theorem normal_def (w : List Int) (he : w.length % 2 = 0) : normal w = least (core (stk w)) :=
  least_ev (by rw [(length_core2 _).1, (length_stk w).1]; exact he) (core_ev _)
theorem normal_pair (u v : List Int) (g : Int) : normal (u ++ g :: g :: v) = normal (u ++ v) := by
  simp only [normal, stk, redR_pair]
theorem normal_stk (w : List Int) : normal (stk w) = normal w := by simp only [normal, stk_stk]

theorem normal_rot2 (a b : Int) (v : List Int) (he : v.length % 2 = 0) : normal (a :: b :: v) = normal (v ++ [a, b]) := by
  rw [normal_def _ (by simp; omega), normal_def _ (by simp; omega)]
  have h1 := core_conj a (b :: v) (by simp; omega)
  have h2 := core_conj b (v ++ [a]) (by simp; omega)
  have e : b :: v ++ [a] = b :: (v ++ [a]) := rfl
  rw [e] at h1
  have e2 : v ++ [a] ++ [b] = v ++ [a, b] := by simp
  rw [e2] at h2
  have h3 := (h1.rot 1).trans h2
  have hl : (core (stk (a :: b :: v))).length % 2 = 0 := by rw [length_core, (length_stk _).1]; simp; omega
  refine least_ev hl (Ev.trans ⟨1, rfl⟩ (b := rotN 2 (core (stk (a :: b :: v)))) ?_)
  have : rotN 1 (rotN 1 (core (stk (a :: b :: v)))) = rotN 2 (core (stk (a :: b :: v))) := rfl
  rw [this] at h3
  exact h3
theorem normal_rotN2 (w : List Int) (he : w.length % 2 = 0) : normal (rotN 2 w) = normal w := by
  match w with
  | [] => rfl
  | [a] => rfl
  | a :: b :: v =>
    rw [normal_rot2 a b v (by simp at he; omega)]
    show normal (v ++ [a] ++ [b]) = _
    simp
theorem normal_ev {w w' : List Int} (he : w.length % 2 = 0) (h : Ev w w') : normal w' = normal w := by
  obtain ⟨j, rfl⟩ := h
  induction j generalizing w with
  | zero => rfl
  | succ j ih =>
    have e : rotN (2 * (j + 1)) w = rotN (2 * j) (rotN 2 w) := by rw [← rotN_add]; congr 1; omega
    rw [e, ih (by rw [length_rotN]; exact he), normal_rotN2 w he]


theorem getElem?_mid (a b : Int) (m : List Int) (i : Nat) (h : i < m.length) : (a :: (m ++ [b]))[i + 1]? = m[i]? := by
  simp [List.getElem?_append, h]

theorem ends_of_cut (c : Nat) : ∀ (s : List Int), (∀ i, i < c → s[i]? = s[s.length - 1 - i]?) → c ≤ s.length / 2 → (c = s.length / 2 ∨ s[c]? ≠ s[s.length - 1 - c]?) →
    ends s = (c, (s.drop c).take (s.length - 2 * c)) := by
  induction c with
  | zero =>
    intro s _ _ h3
    cases s with
    | nil => rfl
    | cons a l =>
      have : ends (a :: l) = (0, a :: l) := by
        apply ends_not
        rcases h3 with h | h
        · cases l with
          | nil => exact .inl rfl
          | cons b l => simp at h; omega
        · refine .inr fun e => h ?_
          have : (a :: l).length - 1 - 0 = l.length := by simp
          rw [this]
          rw [List.getLast?_eq_getElem?] at e
          cases l with
          | nil => rfl
          | cons b l => simpa using e.symm
      rw [this]; simp
  | succ c ih =>
    intro s h1 h2 h3
    cases s with
    | nil => simp at h2
    | cons a l =>
      rcases e : l.reverse with _ | ⟨b, r⟩
      · have : l = [] := by simpa using e
        subst this; simp at h2
      · have hl : l = r.reverse ++ [b] := by have := congrArg List.reverse e; simpa using this
        subst hl
        generalize r.reverse = m at *
        have hab : a = b := by
          have := h1 0 (by omega)
          simpa using this
        subst hab
        have hlen : (a :: (m ++ [a])).length = m.length + 2 := by simp
        rw [hlen] at h1 h2 h3 ⊢
        have i1 : ∀ i, i < c → m[i]? = m[m.length - 1 - i]? := by
          intro i hi
          have := h1 (i + 1) (by omega)
          rw [getElem?_mid _ _ _ _ (by omega)] at this
          have q : m.length + 2 - 1 - (i + 1) = (m.length - 1 - i) + 1 := by omega
          rw [q, getElem?_mid _ _ _ _ (by omega)] at this
          exact this
        have i3 : c = m.length / 2 ∨ m[c]? ≠ m[m.length - 1 - c]? := by
          by_cases hc : c = m.length / 2
          · exact .inl hc
          · rcases h3 with h | h
            · omega
            · refine .inr fun e => h ?_
              rw [getElem?_mid _ _ _ _ (by omega)]
              have q : m.length + 2 - 1 - (c + 1) = (m.length - 1 - c) + 1 := by omega
              rw [q, getElem?_mid _ _ _ _ (by omega)]
              exact e
        have := ih m i1 (by omega) i3
        rw [ends_both, this]
        simp only [Prod.mk.injEq, true_and]
        have q : m.length + 2 - 2 * (c + 1) = m.length - 2 * c := by omega
        rw [q, List.drop_succ_cons, List.drop_append, List.take_append]
        have : m.length - 2 * c - (List.drop c m).length = 0 := by simp; omega
        rw [this]; simp

theorem nd_getElem? : ∀ (l : List Int), nd l ↔ ∀ i, i + 1 < l.length → l[i]? ≠ l[i + 1]? := by
  intro l
  induction l with
  | nil => simp [nd]
  | cons a l ih =>
    cases l with
    | nil => simp [nd]
    | cons b l =>
      simp only [nd, ih]
      constructor
      · rintro ⟨h1, h2⟩ i hi
        cases i with
        | zero => simpa using h1
        | succ i =>
          have := h2 i (by simpa using hi)
          simpa using this
      · intro h
        refine ⟨by simpa using h 0 (by simp), fun i hi => ?_⟩
        have := h (i + 1) (by simpa using hi)
        simpa using this

/-- What the program's cut gives: a reduced word. -/
theorem core2_of_cut (w : List Int) (he : w.length % 2 = 0) (c : Nat) (h1 : ∀ i, i < c → (stk w)[i]? = (stk w)[(stk w).length - 1 - i]?) (h2 : c ≤ (stk w).length / 2)
    (h3 : c = (stk w).length / 2 ∨ (stk w)[c]? ≠ (stk w)[(stk w).length - 1 - c]?) :
    (c % 2 = 1 → 0 < (stk w).length - 2 * c) ∧
    core2 (stk w) = (if c % 2 = 1 then ((stk w).drop (c + 1)).take ((stk w).length - 2 * c - 1) ++ ((stk w).drop c).take 1 else ((stk w).drop c).take ((stk w).length - 2 * c)) := by
  have hl := (length_stk w).1
  have hnd := nd_stk w
  generalize stk w = s at *
  have hp : c % 2 = 1 → 0 < s.length - 2 * c := by
    intro hc
    by_cases e : c = s.length / 2
    · exfalso
      have h := (nd_getElem? s).1 hnd (c - 1) (by omega)
      have g := h1 (c - 1) (by omega)
      have q : s.length - 1 - (c - 1) = c - 1 + 1 := by omega
      rw [q] at g
      exact h g
    · omega
  refine ⟨hp, ?_⟩
  unfold core2
  rw [ends_of_cut c s h1 h2 h3]
  by_cases hc : c % 2 = 1
  · rw [if_pos hc]
    simp only [hc]
    have h4 := hp hc
    rcases e : s.drop c with _ | ⟨a, l⟩
    · have := congrArg List.length e; simp at this; omega
    · have e2 : s.drop (c + 1) = l := by
        have h5 := congrArg (List.drop 1) e
        rw [List.drop_drop] at h5; exact h5
      rw [e2]
      obtain ⟨k, hk⟩ : ∃ k, s.length - 2 * c = k + 1 := ⟨s.length - 2 * c - 1, by omega⟩
      rw [hk]
      simp [rotN, rot1]
  · rw [if_neg hc]
    have : c % 2 = 0 := by omega
    simp only [this]; rfl

/-- Turned round: no two neighbors are equal. -/
def cyc (w : List Int) : Prop := ∀ i, i < w.length → w[i]? ≠ w[(i + 1) % w.length]?

theorem cyc_nd {w : List Int} (h : cyc w) : nd w := by
  rw [nd_getElem?]
  intro i hi
  have := h i (by omega)
  rwa [Nat.mod_eq_of_lt hi] at this
theorem cyc_ends {w : List Int} (h : cyc w) : ends w = (0, w) := by
  cases w with
  | nil => rfl
  | cons a l =>
    apply ends_not
    by_cases e : l = []
    · exact .inl e
    · refine .inr fun q => ?_
      have := h l.length (by simp)
      have m : (l.length + 1) % (a :: l).length = 0 := by simp
      rw [m] at this
      rw [List.getLast?_eq_getElem?] at q
      apply this
      cases l with
      | nil => exact absurd rfl e
      | cons b l => simpa using q
theorem core2_cyc {w : List Int} (h : cyc w) : core2 (stk w) = w := by
  rw [stk_nd (cyc_nd h)]
  unfold core2
  rw [cyc_ends h]; rfl
theorem normal_cyc {w : List Int} (h : cyc w) : normal w = least w := by unfold normal; rw [core2_cyc h]

theorem cyc_iff {w : List Int} : cyc w ↔ nd w ∧ (w.length = 0 ∨ w[w.length - 1]? ≠ w[0]?) := by
  constructor
  · intro h
    refine ⟨cyc_nd h, ?_⟩
    rcases Nat.eq_zero_or_pos w.length with h0 | h0
    · exact .inl h0
    · have := h (w.length - 1) (by omega)
      have q : (w.length - 1 + 1) % w.length = 0 := by rw [show w.length - 1 + 1 = w.length by omega]; simp
      rw [q] at this
      exact .inr this
  · rintro ⟨h1, h2⟩ i hi
    by_cases e : i + 1 < w.length
    · rw [Nat.mod_eq_of_lt e]; exact (nd_getElem? w).1 h1 i e
    · have : i = w.length - 1 := by omega
      subst this
      have q : (w.length - 1 + 1) % w.length = 0 := by rw [show w.length - 1 + 1 = w.length by omega]; simp
      rw [q]
      rcases h2 with h2 | h2
      · omega
      · exact h2
theorem cyc_rot1 {w : List Int} (h : cyc w) : cyc (rot1 w) := by
  rw [cyc_iff] at h ⊢
  cases w with
  | nil => exact ⟨trivial, .inl rfl⟩
  | cons a l =>
    rw [rot1_cons]
    obtain ⟨h1, h2⟩ := h
    have h2 : (a :: l)[l.length]? ≠ some a := by simpa using h2
    refine ⟨?_, .inr ?_⟩
    · rcases e : l.reverse with _ | ⟨y, r⟩
      · have : l = [] := by simpa using e
        subst this; trivial
      · have hl : l = r.reverse ++ [y] := by have := congrArg List.reverse e; simpa using this
        subst hl
        have q : r.reverse ++ [y] ++ [a] = r.reverse ++ [y, a] := by simp
        rw [q, nd_snoc2]
        refine ⟨nd_tail h1, fun e => h2 ?_⟩
        subst e
        rw [show (r.reverse ++ [y]).length = r.reverse.length + 1 by simp]
        simp
    · cases l with
      | nil => exfalso; simp at h2
      | cons b l =>
        have := h1.1
        simpa using this
theorem cyc_rotN {w : List Int} (h : cyc w) (k : Nat) : cyc (rotN k w) := by
  induction k generalizing w with
  | zero => exact h
  | succ k ih => exact ih (cyc_rot1 h)
theorem cyc_reverse {w : List Int} (h : cyc w) : cyc w.reverse := by
  rw [cyc_iff] at h ⊢
  refine ⟨nd_rev h.1, ?_⟩
  rcases Nat.eq_zero_or_pos w.length with h0 | h0
  · exact .inl (by simpa using h0)
  · rcases h.2 with h | h
    · omega
    · refine .inr ?_
      rw [List.length_reverse, List.getElem?_reverse (by omega), List.getElem?_reverse (by omega)]
      have : w.length - 1 - (w.length - 1) = 0 := by omega
      rw [this]
      exact fun e => h e.symm
theorem cyc_cd {w l : List Int} (h : cyc w) (hc : Cd w l) : cyc l := by
  rcases hc with ⟨j, rfl⟩ | ⟨j, rfl⟩
  · exact cyc_rotN h _
  · exact cyc_rotN (cyc_reverse h) _

theorem cyc_ends2 : ∀ (n : Nat) (s : List Int), s.length ≤ n → nd s → (s.length % 2 = 0) → cyc (ends s).2 := by
  intro n
  induction n with
  | zero => intro s h _ _; have : s = [] := List.eq_nil_of_length_eq_zero (by omega); subst this; intro i hi; simp [ends_nil] at hi
  | succ n ih =>
    intro s h hn he
    cases s with
    | nil => intro i hi; simp [ends_nil] at hi
    | cons a l =>
      by_cases c : l = [] ∨ l.getLast? ≠ some a
      · rw [ends_not a l c, cyc_iff]
        refine ⟨hn, .inr ?_⟩
        rcases c with c | c
        · subst c; simp at he
        · cases l with
          | nil => simp at he
          | cons b l => rw [List.getLast?_eq_getElem?] at c; simpa using c
      · have c2 : l.getLast? = some a := Classical.byContradiction fun e => c (.inr e)
        obtain ⟨m, rfl⟩ := List.getLast?_eq_some_iff.1 c2
        rw [ends_both]
        have hm : nd m := by
          have h1 := nd_rev (nd_tail hn)
          rw [List.reverse_append] at h1
          have h2 := nd_rev (nd_tail h1)
          simpa using h2
        exact ih m (by simp at h; omega) hm (by simp at he; omega)
theorem cyc_core2 (w : List Int) (he : w.length % 2 = 0) : cyc (core2 (stk w)) :=
  cyc_rotN (cyc_ends2 _ _ (Nat.le_refl _) (nd_stk w) (by rw [(length_stk w).1]; exact he)) _
theorem cyc_normal (w : List Int) (he : w.length % 2 = 0) : cyc (normal w) :=
  cyc_cd (cyc_core2 w he) (isLeast_least _ (by rw [(length_core2 _).1, (length_stk w).1]; exact he)).1
theorem length_normal (w : List Int) : (normal w).length % 2 = w.length % 2 ∧ (normal w).length ≤ w.length := by
  unfold normal least
  rw [length_cand]
  have h1 := length_core2 (stk w)
  have h2 := length_stk w
  omega
theorem normal_normal (w : List Int) (he : w.length % 2 = 0) : normal (normal w) = normal w := by
  rw [normal_cyc (cyc_normal w he)]
  have hl : (core2 (stk w)).length % 2 = 0 := by rw [(length_core2 _).1, (length_stk w).1]; exact he
  have h := isLeast_least _ hl
  rcases h.1 with h1 | h1
  · exact (least_ev hl h1).symm
  · have := least_ev (by simpa using hl) h1
    rw [least_reverse _ hl] at this
    exact this.symm

theorem mem_ends : ∀ (n : Nat) (s : List Int), s.length ≤ n → ∀ x, x ∈ (ends s).2 → x ∈ s := by
  intro n
  induction n with
  | zero => intro s h x hx; have : s = [] := List.eq_nil_of_length_eq_zero (by omega); subst this; exact hx
  | succ n ih =>
    intro s h x hx
    cases s with
    | nil => exact hx
    | cons a l =>
      by_cases c : l = [] ∨ l.getLast? ≠ some a
      · rw [ends_not a l c] at hx; exact hx
      · have c2 : l.getLast? = some a := Classical.byContradiction fun e => c (.inr e)
        obtain ⟨m, rfl⟩ := List.getLast?_eq_some_iff.1 c2
        rw [ends_both] at hx
        have := ih m (by simp at h; omega) x hx
        simp [this]
theorem mem_least {r : List Int} {x : Int} (he : r.length % 2 = 0) (h : x ∈ least r) : x ∈ r := by
  rcases (isLeast_least r he).1 with ⟨j, e⟩ | ⟨j, e⟩
  · rw [e] at h; exact mem_rotN.1 h
  · rw [e] at h; simpa using mem_rotN.1 h
theorem mem_normal {w : List Int} {x : Int} (he : w.length % 2 = 0) (h : x ∈ normal w) : x ∈ w := by
  have h1 := mem_least (by rw [(length_core2 _).1, (length_stk w).1]; exact he) h
  unfold core2 at h1
  exact mem_stk (mem_ends _ _ (Nat.le_refl _) x (mem_rotN.1 h1))


/-- One step of the reference: the pair at index i is taken away. -/
def stepR (w : List Int) (i : Nat) : List Int :=
  if i % 2 = 0 then (rotN i w).drop 2 else (rotN (i - 1) w).take 1 ++ (rotN (i - 1) w).drop 3

theorem normal_stepR (w : List Int) (he : w.length % 2 = 0) (i : Nat) (hi : i < w.length) (h : w[i]? = w[(i + 1) % w.length]?) (hf : i % 2 = 1 → 4 ≤ w.length) :
    normal (stepR w i) = normal w := by
  unfold stepR
  by_cases hp : i % 2 = 0
  · rw [if_pos hp]
    have h0 := rotN_getD w i 0 (by omega) (by omega)
    have h1 := rotN_getD w i 1 (by omega) (by omega)
    rw [Nat.add_zero, Nat.mod_eq_of_lt hi] at h0
    rw [← h, ← h0] at h1
    have hn := normal_ev he ⟨i / 2, show rotN i w = rotN (2 * (i / 2)) w by congr 1; omega⟩
    rw [← hn]
    have hl := length_rotN i w
    generalize rotN i w = o at *
    match o with
    | [] => rfl
    | [a] => simp at hl; omega
    | a :: b :: v =>
      have : b = a := by simpa using h1
      subst this
      have := normal_pair [] v b
      simpa using this.symm
  · rw [if_neg hp]
    have h4 := hf (by omega)
    have h1 := rotN_getD w (i - 1) 1 (by omega) (by omega)
    have h2 := rotN_getD w (i - 1) 2 (by omega) (by omega)
    rw [show i - 1 + 1 = i by omega, Nat.mod_eq_of_lt hi] at h1
    rw [show i - 1 + 2 = i + 1 by omega, ← h, ← h1] at h2
    have hn := normal_ev he ⟨(i - 1) / 2, show rotN (i - 1) w = rotN (2 * ((i - 1) / 2)) w by congr 1; omega⟩
    rw [← hn]
    have hl := length_rotN (i - 1) w
    generalize rotN (i - 1) w = o at *
    match o with
    | [] => rfl
    | [a] => simp at hl; omega
    | [a, b] => simp at hl; omega
    | a :: b :: c :: v =>
      have : c = b := by simpa using h2
      subst this
      have := normal_pair [a] v c
      simpa using this.symm
theorem length_stepR (w : List Int) (i : Nat) (h2 : 2 ≤ w.length) (hf : i % 2 = 1 → 4 ≤ w.length) : (stepR w i).length = w.length - 2 := by
  unfold stepR
  split
  · rw [List.length_drop, length_rotN]
  · rw [List.length_append, List.length_take, List.length_drop, length_rotN]; omega
theorem mem_stepR {w : List Int} {i : Nat} {x : Int} (h : x ∈ stepR w i) : x ∈ w := by
  unfold stepR at h
  split at h
  · exact mem_rotN.1 (List.mem_of_mem_drop h)
  · rcases List.mem_append.1 h with h | h
    · exact mem_rotN.1 (List.mem_of_mem_take h)
    · exact mem_rotN.1 (List.mem_of_mem_drop h)

/-- The reference's search for the least one. -/
def refBest (r : List Int) : Nat → List Int
  | 0 => r
  | k + 1 =>
    let b1 := if lexLt (rotN (2 * k) r) (refBest r k) then rotN (2 * k) r else refBest r k
    if lexLt (rotN (2 * k) r.reverse) b1 then rotN (2 * k) r.reverse else b1

theorem refBest_cd (r : List Int) (k : Nat) : Cd r (refBest r k) := by
  induction k with
  | zero => exact .inl (Ev.refl _)
  | succ k ih =>
    show Cd r (if lexLt _ _ = true then _ else _)
    have h1 : Cd r (if lexLt (rotN (2 * k) r) (refBest r k) then rotN (2 * k) r else refBest r k) := by
      split
      · exact .inl ⟨k, rfl⟩
      · exact ih
    generalize (if lexLt (rotN (2 * k) r) (refBest r k) then rotN (2 * k) r else refBest r k) = b1 at h1 ⊢
    split
    · exact .inr ⟨k, rfl⟩
    · exact h1
theorem lexLt_le {a b c : List Int} (hab : a.length = b.length) (hbc : b.length = c.length) (h1 : lexLt a b = false) (h2 : lexLt c b = true) : lexLt a c = false := by
  cases h : lexLt a c with
  | false => rfl
  | true => have := lexLt_trans a c b (by omega) (by omega) h h2; rw [h1] at this; cases this
theorem refBest_min (r : List Int) (k : Nat) : ∀ j, j < k → lexLt (rotN (2 * j) r) (refBest r k) = false ∧ lexLt (rotN (2 * j) r.reverse) (refBest r k) = false := by
  induction k with
  | zero => intro j h; omega
  | succ k ih =>
    intro j hj
    have hb := (refBest_cd r k).length
    have l1 : ∀ m, (rotN m r).length = r.length := fun m => length_rotN m r
    have l2 : ∀ m, (rotN m r.reverse).length = r.length := fun m => by rw [length_rotN]; simp
    simp only [refBest]
    by_cases c1 : lexLt (rotN (2 * k) r) (refBest r k) = true
    · rw [if_pos c1]
      have a1 : ∀ i, i < k + 1 → lexLt (rotN (2 * i) r) (rotN (2 * k) r) = false := by
        intro i hi
        by_cases e : i = k
        · subst e; exact lexLt_irrefl _
        · exact lexLt_le (by rw [l1, hb]) (by rw [l1, hb]) (ih i (by omega)).1 c1
      have a2 : ∀ i, i < k → lexLt (rotN (2 * i) r.reverse) (rotN (2 * k) r) = false := by
        intro i hi
        exact lexLt_le (by rw [l2, hb]) (by rw [l1, hb]) (ih i (by omega)).2 c1
      by_cases c2 : lexLt (rotN (2 * k) r.reverse) (rotN (2 * k) r) = true
      · rw [if_pos c2]
        refine ⟨lexLt_le (by rw [l1, l1]) (by rw [l2, l1]) (a1 j hj) c2, ?_⟩
        by_cases e : j = k
        · subst e; exact lexLt_irrefl _
        · exact lexLt_le (by rw [l2, l1]) (by rw [l2, l1]) (a2 j (by omega)) c2
      · rw [if_neg c2]
        refine ⟨a1 j hj, ?_⟩
        by_cases e : j = k
        · subst e; simpa using c2
        · exact a2 j (by omega)
    · rw [if_neg c1]
      have a1 : ∀ i, i < k + 1 → lexLt (rotN (2 * i) r) (refBest r k) = false := by
        intro i hi
        by_cases e : i = k
        · subst e; simpa using c1
        · exact (ih i (by omega)).1
      by_cases c2 : lexLt (rotN (2 * k) r.reverse) (refBest r k) = true
      · rw [if_pos c2]
        refine ⟨lexLt_le (by rw [l1, hb]) (by rw [l2, hb]) (a1 j hj) c2, ?_⟩
        by_cases e : j = k
        · subst e; exact lexLt_irrefl _
        · exact lexLt_le (by rw [l2, hb]) (by rw [l2, hb]) (ih j (by omega)).2 c2
      · rw [if_neg c2]
        refine ⟨a1 j hj, ?_⟩
        by_cases e : j = k
        · subst e; simpa using c2
        · exact (ih j (by omega)).2
theorem refBest_least (r : List Int) (he : r.length % 2 = 0) : refBest r (r.length / 2) = least r := by
  refine IsLeast.unique (r := r) ⟨refBest_cd r _, fun c hc => ?_⟩ (isLeast_least r he)
  rcases Nat.eq_zero_or_pos r.length with h0 | hp
  · have h1 : r = [] := List.eq_nil_of_length_eq_zero h0
    subst h1
    have : c = [] := List.eq_nil_of_length_eq_zero hc.length
    subst this; rfl
  · rcases hc with ⟨j, rfl⟩ | ⟨j, rfl⟩
    · rw [rotN_mod]
      have h1 := even_mod (2 * j) r.length he (by omega)
      have h2 := Nat.mod_lt (2 * j) hp
      have := (refBest_min r (r.length / 2) (2 * j % r.length / 2) (by omega)).1
      rwa [show 2 * (2 * j % r.length / 2) = 2 * j % r.length by omega] at this
    · rw [rotN_mod, List.length_reverse]
      have h1 := even_mod (2 * j) r.length he (by omega)
      have h2 := Nat.mod_lt (2 * j) hp
      have := (refBest_min r (r.length / 2) (2 * j % r.length / 2) (by omega)).2
      rwa [show 2 * (2 * j % r.length / 2) = 2 * j % r.length by omega] at this

/-- The reverse has the same normal form. -/
theorem normal_reverse (w : List Int) (he : w.length % 2 = 0) : normal w.reverse = normal w := by
  -- the core of the reversed stack is the reversed core, turned
  have ends_rev : ∀ (n : Nat) (s : List Int), s.length ≤ n → ends s.reverse = ((ends s).1, (ends s).2.reverse) := by
    intro n
    induction n with
    | zero => intro s h; have : s = [] := List.eq_nil_of_length_eq_zero (by omega); subst this; rfl
    | succ n ih =>
      intro s h
      cases s with
      | nil => rfl
      | cons a l =>
        by_cases c : l = [] ∨ l.getLast? ≠ some a
        · rw [ends_not a l c]
          rcases e : l.reverse with _ | ⟨b, r⟩
          · have : l = [] := by simpa using e
            subst this; rfl
          · have hl : l = r.reverse ++ [b] := by have := congrArg List.reverse e; simpa using this
            have hr : (a :: l).reverse = b :: (r ++ [a]) := by rw [List.reverse_cons, e]; rfl
            rw [hr, ends_not]
            refine .inr ?_
            rcases c with c | c
            · subst c; simp at e
            · rw [hl] at c; simp at c ⊢; exact fun q => c q.symm
        · have c2 : l.getLast? = some a := Classical.byContradiction fun e => c (.inr e)
          obtain ⟨m, rfl⟩ := List.getLast?_eq_some_iff.1 c2
          have hr : (a :: (m ++ [a])).reverse = a :: (m.reverse ++ [a]) := by simp
          rw [hr, ends_both, ends_both, ih m (by simp at h; omega)]
  rw [normal_def _ (by simpa using he), normal_def _ he, stk_reverse]
  have hl : (ends (stk w)).2.length % 2 = 0 := by
    have h1 := length_ends _ (stk w) (Nat.le_refl _)
    have h2 := (length_stk w).1
    omega
  unfold core
  rw [ends_rev _ _ (Nat.le_refl _)]
  -- rotN c (m.reverse) is (rotN c m).reverse turned by 2 c
  have rr : ∀ (c : Nat) (m : List Int), m.length % 2 = 0 → Ev (rotN c m).reverse (rotN c m.reverse) := by
    intro c
    induction c with
    | zero => intro m _; exact Ev.refl _
    | succ c ih =>
      intro m hm
      have h1 := ih (rot1 m) (by rw [length_rot1]; exact hm)
      have h2 : Ev (rot1 m).reverse (rot1 m.reverse) := by
        cases m with
        | nil => exact Ev.refl _
        | cons a l =>
          refine ⟨1, ?_⟩
          show _ = rot1 (rot1 (l ++ [a]).reverse)
          rw [List.reverse_append]
          show _ = rot1 (rot1 (a :: l.reverse))
          rw [rot1_cons]; simp
      exact h1.trans (h2.rot c)
  have h3 := rr (ends (stk w)).1 (ends (stk w)).2 hl
  show least (rotN (ends (stk w)).1 (ends (stk w)).2.reverse) = _
  rw [← least_ev (by simpa [length_rotN] using hl) h3, least_reverse _ (by rw [length_rotN]; exact hl)]

/-- A letter at both ends, the former first letter before the last one. -/
theorem normal_ends (w : List Int) (he : w.length % 2 = 0) (g : Int) : normal (g :: (rot1 w ++ [g])) = normal w := by
  rw [normal_def _ (by simp [length_rot1]; omega), normal_def _ he]
  have hr : (rot1 w).length % 2 = 0 := by rw [length_rot1]; exact he
  have c1 := core_conj g (rot1 w ++ [g]) (by simp; omega)
  have e1 : stk (rot1 w ++ [g] ++ [g]) = stk (rot1 w) := by
    have h := redR_pair (rot1 w) [] g
    have q : rot1 w ++ [g] ++ [g] = rot1 w ++ g :: g :: [] := by simp
    simp only [stk, q, h]; simp
  rw [e1] at c1
  have hA : (core (stk (g :: (rot1 w ++ [g])))).length % 2 = 0 := by rw [length_core, (length_stk _).1]; simp; omega
  -- c1 : Ev (rot1 A) B, with A ours and B of rot1 w;  B ~ rot1 C, C of w
  have c2 : Ev (rotN 1 (core (stk w))) (core (stk (rot1 w))) := by
    cases w with
    | nil => exact ⟨0, rfl⟩
    | cons a l => exact core_conj a l (by simp at he; omega)
  have hC : (core (stk w)).length % 2 = 0 := by rw [length_core, (length_stk _).1]; exact he
  have d1 : Ev (rotN 1 (core (stk (g :: (rot1 w ++ [g]))))) (rotN 1 (core (stk w))) := c1.trans (c2.symm (by rw [length_rotN]; exact hC))
  have d2 := d1.rot 1
  have d3 : Ev (core (stk (g :: (rot1 w ++ [g])))) (rotN 1 (rotN 1 (core (stk w)))) := Ev.trans ⟨1, rfl⟩ d2
  exact (least_ev hA (d3.trans ((Ev.symm hC ⟨1, rfl⟩))))

end Go.Proofs.YtbbpockkafbfmaaDoor.Ln
