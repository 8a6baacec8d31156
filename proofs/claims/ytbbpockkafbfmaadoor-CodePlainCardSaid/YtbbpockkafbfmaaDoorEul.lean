/-
  Euler's inequality for permutations and exchanges: faces and vertices are at most edges and twice the pieces (pure).
-/
import Derived.Test.YtbbpockkafbfmaaDoorVsimV
namespace Go.Proofs.YtbbpockkafbfmaaDoor
open Go.RowKit

/-! ## Classes -/
open Classical in
/-- The least of its class. -/
noncomputable def lstB (E : Nat → Nat → Prop) (x : Nat) : Bool := decide (∀ y, y < x → ¬ E y x)
theorem lstB_iff {E : Nat → Nat → Prop} {x : Nat} : lstB E x = true ↔ ∀ y, y < x → ¬ E y x := by unfold lstB; exact @decide_eq_true_iff _ (_)
theorem lstB_not {E : Nat → Nat → Prop} {x : Nat} : lstB E x = false ↔ ¬ ∀ y, y < x → ¬ E y x := by rw [← lstB_iff, Bool.not_eq_true]
/-- How many classes a relation has below N: its least elements. -/
noncomputable def cls (E : Nat → Nat → Prop) (N : Nat) : Nat := ((List.range N).filter (lstB E)).length
structure Eqv (E : Nat → Nat → Prop) : Prop where
  refl : ∀ x, E x x
  symm : ∀ x y, E x y → E y x
  trans : ∀ x y z, E x y → E y z → E x z
/-- Two classes become one. -/
def Mrg (E : Nat → Nat → Prop) (a b x y : Nat) : Prop := E x y ∨ (E x a ∧ E b y) ∨ (E x b ∧ E a y)
theorem Mrg.eqv {E : Nat → Nat → Prop} (h : Eqv E) (a b : Nat) : Eqv (Mrg E a b) := by
  refine ⟨fun x => .inl (h.refl x), fun x y q => ?_, fun x y z p q => ?_⟩
  · rcases q with q | ⟨q, r⟩ | ⟨q, r⟩
    · exact .inl (h.symm _ _ q)
    · exact .inr (.inr ⟨h.symm _ _ r, h.symm _ _ q⟩)
    · exact .inr (.inl ⟨h.symm _ _ r, h.symm _ _ q⟩)
  · rcases p with p | ⟨p1, p2⟩ | ⟨p1, p2⟩ <;> rcases q with q | ⟨q1, q2⟩ | ⟨q1, q2⟩
    · exact .inl (h.trans _ _ _ p q)
    · exact .inr (.inl ⟨h.trans _ _ _ p q1, q2⟩)
    · exact .inr (.inr ⟨h.trans _ _ _ p q1, q2⟩)
    · exact .inr (.inl ⟨p1, h.trans _ _ _ p2 q⟩)
    · exact .inr (.inl ⟨p1, q2⟩)
    · exact .inl (h.trans _ _ _ p1 q2)
    · exact .inr (.inr ⟨p1, h.trans _ _ _ p2 q⟩)
    · exact .inl (h.trans _ _ _ p1 q2)
    · exact .inr (.inr ⟨p1, q2⟩)
theorem filter_le {p q : Nat → Bool} : ∀ {l : List Nat}, (∀ x, x ∈ l → p x = true → q x = true) → (l.filter p).length ≤ (l.filter q).length
  | [], _ => Nat.le_refl _
  | a :: l, h => by
    have ih := filter_le (l := l) (fun x hx => h x (List.mem_cons_of_mem _ hx))
    have ha := h a (List.mem_cons_self ..)
    rw [List.filter_cons, List.filter_cons]
    cases hp : p a <;> cases hq : q a <;> simp_all <;> omega
/-- One element may be missing. -/
theorem filter_le1 {p q : Nat → Bool} (z : Nat) : ∀ {l : List Nat}, l.Nodup → (∀ x, x ∈ l → p x = true → q x = true ∨ x = z) → (l.filter p).length ≤ (l.filter q).length + 1
  | [], _, _ => Nat.zero_le _
  | a :: l, hn, h => by
    have hn' := (List.nodup_cons.1 hn)
    by_cases ha : a = z
    · have h2 := filter_le (p := p) (q := q) (l := l) (fun x hx hp => by
        rcases h x (List.mem_cons_of_mem _ hx) hp with c | c
        · exact c
        · exact absurd (by rw [ha, ← c]; exact hx) hn'.1)
      rw [List.filter_cons, List.filter_cons]
      split <;> split <;> simp <;> omega
    · have ih := filter_le1 z (l := l) hn'.2 (fun x hx => h x (List.mem_cons_of_mem _ hx))
      have ha' := h a (List.mem_cons_self ..)
      rw [List.filter_cons, List.filter_cons]
      cases hp : p a <;> cases hq : q a <;> simp_all <;> omega
theorem filter_lt {p q : Nat → Bool} {z : Nat} : ∀ {l : List Nat}, z ∈ l → p z = false → q z = true → (∀ x, x ∈ l → p x = true → q x = true) → (l.filter p).length + 1 ≤ (l.filter q).length
  | a :: l, hz, h1, h2, h => by
    have hl := filter_le (p := p) (q := q) (l := l) (fun x hx => h x (List.mem_cons_of_mem _ hx))
    have ha := h a (List.mem_cons_self ..)
    rw [List.filter_cons, List.filter_cons]
    rcases List.mem_cons.1 hz with e | e
    · subst e
      simp [h1, h2]; omega
    · have ih := filter_lt (l := l) e h1 h2 (fun x hx => h x (List.mem_cons_of_mem _ hx))
      cases hp : p a <;> cases hq : q a <;> simp_all <;> omega
theorem cls_mono {E E' : Nat → Nat → Prop} {N : Nat} (h : ∀ x y, E x y → E' x y) : cls E' N ≤ cls E N := by
  unfold cls
  apply filter_le
  intro x _ hx
  rw [lstB_iff] at hx ⊢
  exact fun y hy q => hx y hy (h _ _ q)
/-- The least element of a class. -/
theorem least_in {E : Nat → Nat → Prop} (h : Eqv E) : ∀ a : Nat, ∃ m, m ≤ a ∧ E m a ∧ ∀ y, y < m → ¬ E y m := by
  intro a
  induction a using Nat.strongRecOn with
  | ind a ih =>
    by_cases hx : ∃ y, y < a ∧ E y a
    · obtain ⟨y, hy, he⟩ := hx
      obtain ⟨m, h1, h2, h3⟩ := ih y hy
      exact ⟨m, by omega, h.trans _ _ _ h2 he, h3⟩
    · exact ⟨a, Nat.le_refl _, h.refl a, fun y hy q => hx ⟨y, hy, q⟩⟩
theorem least_uniq {E : Nat → Nat → Prop} (h : Eqv E) {m k : Nat} (he : E m k) (h1 : ∀ y, y < m → ¬ E y m) (h2 : ∀ y, y < k → ¬ E y k) : m = k := by
  rcases Nat.lt_trichotomy m k with q | q | q
  · exact absurd he (h2 m q)
  · exact q
  · exact absurd (h.symm _ _ he) (h1 k q)
theorem cls_mrg_ge {E : Nat → Nat → Prop} (h : Eqv E) (a b N : Nat) : cls E N ≤ cls (Mrg E a b) N + 1 := by
  obtain ⟨ma, a1, a2, a3⟩ := least_in h a
  obtain ⟨mb, b1, b2, b3⟩ := least_in h b
  unfold cls
  refine filter_le1 (if ma ≤ mb then mb else ma) List.nodup_range (fun x _ hx => ?_)
  rw [lstB_iff] at hx
  by_cases hq : ∀ y, y < x → ¬ Mrg E a b y x
  · left; rw [lstB_iff]; exact hq
  · right
    obtain ⟨y, hy⟩ := Classical.not_forall.1 hq
    obtain ⟨hy, hm⟩ := Classical.not_imp.1 hy
    have hm := Classical.not_not.1 hm
    rcases hm with c | ⟨c, d⟩ | ⟨c, d⟩
    · exact absurd c (hx y hy)
    · -- x in b's class, y in a's
      have e : mb = x := least_uniq h (h.trans _ _ _ b2 d) b3 hx
      have : ma ≤ y := by
        rcases Nat.lt_or_ge y ma with q | q
        · exact absurd (h.trans _ _ _ c (h.symm _ _ a2)) (a3 y q)
        · exact q
      rw [if_pos (by omega)]; exact e.symm
    · have e : ma = x := least_uniq h (h.trans _ _ _ a2 d) a3 hx
      have : mb ≤ y := by
        rcases Nat.lt_or_ge y mb with q | q
        · exact absurd (h.trans _ _ _ c (h.symm _ _ b2)) (b3 y q)
        · exact q
      rw [if_neg (by omega)]; exact e.symm
theorem cls_mrg_lt {E : Nat → Nat → Prop} (h : Eqv E) {a b N : Nat} (ha : a < N) (hb : b < N) (hab : ¬ E a b) : cls (Mrg E a b) N + 1 ≤ cls E N := by
  obtain ⟨ma, a1, a2, a3⟩ := least_in h a
  obtain ⟨mb, b1, b2, b3⟩ := least_in h b
  have hne : ma ≠ mb := fun e => hab (h.trans _ _ _ (h.symm _ _ a2) (by rw [e]; exact b2))
  unfold cls
  refine filter_lt (z := if ma ≤ mb then mb else ma) (List.mem_range.2 (by split <;> omega)) ?_ ?_ (fun x _ hx => ?_)
  · rw [lstB_not]
    intro q
    by_cases c : ma ≤ mb
    · rw [if_pos c] at q
      exact q ma (by omega) (.inr (.inl ⟨a2, h.symm _ _ b2⟩))
    · rw [if_neg c] at q
      exact q mb (by omega) (.inr (.inr ⟨b2, h.symm _ _ a2⟩))
  · rw [lstB_iff]
    split
    · exact b3
    · exact a3
  · rw [lstB_iff] at hx ⊢
    exact fun y hy q => hx y hy (.inl q)
theorem cls_le_one {E : Nat → Nat → Prop} (N : Nat) (h : ∀ x, x < N → E 0 x) : cls E N ≤ 1 := by
  have := filter_le1 (p := lstB E) (q := fun _ => false) 0 (List.nodup_range (n := N)) (fun x hx hp => by
    right
    rcases Nat.eq_zero_or_pos x with e | e
    · exact e
    · exact absurd (h x (List.mem_range.1 hx)) (lstB_iff.1 hp 0 e))
  unfold cls
  have e : ((List.range N).filter fun _ => false).length = 0 := by simp
  omega
/-- A relation has at least as many classes as labels that are constant on them. -/
theorem cls_labels {E : Nat → Nat → Prop} (h : Eqv E) {N : Nat} (lab : Nat → Nat) (hc : ∀ x y, E x y → x < N → y < N → lab x = lab y) (L : List Nat) (hn : L.Nodup) (ha : ∀ c, c ∈ L → ∃ x, x < N ∧ lab x = c) : L.length ≤ cls E N := by
  have key : ∀ c, c ∈ L → c ∈ (((List.range N).filter (lstB E)).map lab) := by
    intro c hcL
    obtain ⟨x, hx, e⟩ := ha c hcL
    obtain ⟨m, m1, m2, m3⟩ := least_in h x
    refine List.mem_map.2 ⟨m, List.mem_filter.2 ⟨List.mem_range.2 (by omega), lstB_iff.2 m3⟩, ?_⟩
    rw [← e]; exact hc m x m2 (by omega) hx
  have h1 : L.length ≤ (((List.range N).filter (lstB E)).map lab).length := nodup_sub hn key
  rw [List.length_map] at h1
  unfold cls
  exact h1

/-! ## Orbits -/
theorem orb_eqv (T : Nat → Nat) (N : Nat) : Eqv (Orb T N) := ⟨fun x => .refl x, fun _ _ h => h.symm, fun _ _ _ h k => h.trans k⟩
def itT (T : Nat → Nat) : Nat → Nat → Nat
  | 0, x => x
  | k + 1, x => T (itT T k x)
theorem itT_lt {T : Nat → Nat} {N : Nat} (hlt : ∀ x, x < N → T x < N) : ∀ k x, x < N → itT T k x < N
  | 0, _, h => h
  | k + 1, x, h => hlt _ (itT_lt hlt k x h)
theorem itT_inj {T : Nat → Nat} {N : Nat} (hlt : ∀ x, x < N → T x < N) (hinj : ∀ x y, x < N → y < N → T x = T y → x = y) : ∀ i d x, x < N → itT T i x = itT T (i + d) x → x = itT T d x
  | 0, d, x, _, h => by rw [Nat.zero_add] at h; exact h
  | i + 1, d, x, hx, h => by
    rw [show i + 1 + d = (i + d) + 1 by omega] at h
    exact itT_inj hlt hinj i d x hx (hinj _ _ (itT_lt hlt _ _ hx) (itT_lt hlt _ _ hx) h)
theorem cycle {T : Nat → Nat} {N : Nat} (hlt : ∀ x, x < N → T x < N) (hinj : ∀ x y, x < N → y < N → T x = T y → x = y) {b : Nat} (hb : b < N) : ∃ L, itT T (L + 1) b = b := by
  apply Classical.byContradiction
  intro hno
  have hn : ((List.range (N + 1)).map fun k => itT T k b).Nodup := by
    rw [List.Nodup, List.pairwise_map]
    apply List.Pairwise.imp_of_mem (R := fun i j => i < j) _ List.pairwise_lt_range
    intro i j _ _ hij e
    obtain ⟨d, rfl⟩ : ∃ d, j = i + (d + 1) := ⟨j - i - 1, by omega⟩
    exact hno ⟨d, (itT_inj hlt hinj i (d + 1) b hb e).symm⟩
  have := nodup_bound hn (N := N) (fun x hx => by
    obtain ⟨k, _, rfl⟩ := List.mem_map.1 hx
    exact itT_lt hlt k b hb)
  simp at this
  omega
theorem itT_orb {T : Nat → Nat} {N : Nat} (hlt : ∀ x, x < N → T x < N) : ∀ k x, x < N → Orb T N x (itT T k x)
  | 0, x, _ => .refl x
  | k + 1, x, h => (itT_orb hlt k x h).fwd (itT_lt hlt k x h)
/-- A permutation behind an exchange of two points. -/
def swT (T : Nat → Nat) (a b x : Nat) : Nat := if x = a then T b else if x = b then T a else T x
theorem swT_lt {T : Nat → Nat} {N a b : Nat} (hlt : ∀ x, x < N → T x < N) (ha : a < N) (hb : b < N) : ∀ x, x < N → swT T a b x < N := by
  intro x hx
  unfold swT
  split
  · exact hlt b hb
  · split
    · exact hlt a ha
    · exact hlt x hx
theorem swT_inj {T : Nat → Nat} {N a b : Nat} (hinj : ∀ x y, x < N → y < N → T x = T y → x = y) (ha : a < N) (hb : b < N) : ∀ x y, x < N → y < N → swT T a b x = swT T a b y → x = y := by
  intro x y hx hy h
  unfold swT at h
  split at h <;> split at h <;> (try split at h) <;> (try split at h)
  all_goals first
    | (have := hinj _ _ hb hb h; omega)
    | (have := hinj _ _ hb ha h; omega)
    | (have := hinj _ _ ha hb h; omega)
    | (have := hinj _ _ ha ha h; omega)
    | (have := hinj _ _ hb hy h; omega)
    | (have := hinj _ _ ha hy h; omega)
    | (have := hinj _ _ hx hb h; omega)
    | (have := hinj _ _ hx ha h; omega)
    | (have := hinj _ _ hx hy h; omega)
/-- Orbits after an exchange lie in the orbits before, joined. -/
theorem orb_swT_mrg {T : Nat → Nat} {N a b : Nat} (ha : a < N) (hb : b < N) {x y : Nat} (h : Orb (swT T a b) N x y) : Mrg (Orb T N) a b x y := by
  have hE := Mrg.eqv (orb_eqv T N) a b
  have step : ∀ z, z < N → Mrg (Orb T N) a b z (swT T a b z) := by
    intro z hz
    unfold swT
    split
    · rename_i e; subst e
      exact .inr (.inl ⟨.refl _, (Orb.refl b).fwd hb⟩)
    · split
      · rename_i e; subst e
        exact .inr (.inr ⟨.refl _, (Orb.refl a).fwd ha⟩)
      · exact .inl ((Orb.refl z).fwd hz)
  induction h with
  | refl => exact hE.refl _
  | fwd _ hy ih => exact hE.trans _ _ _ ih (step _ hy)
  | bwd _ hy ih => exact hE.trans _ _ _ ih (hE.symm _ _ (step _ hy))
theorem swT_swT (T : Nat → Nat) (a b : Nat) : swT (swT T a b) a b = T := by
  funext x
  unfold swT
  by_cases h1 : x = a
  · subst h1; rw [if_pos rfl]
    by_cases h2 : b = x
    · subst h2; rw [if_pos rfl]
    · rw [if_neg h2, if_pos rfl]
  · rw [if_neg h1]
    by_cases h2 : x = b
    · subst h2; rw [if_pos rfl, if_pos rfl]
    · rw [if_neg h2, if_neg h1, if_neg h2]
/-- .. of two orbits becomes one. -/
theorem orb_swT_join {T : Nat → Nat} {N a b : Nat} (hlt : ∀ x, x < N → T x < N) (hinj : ∀ x y, x < N → y < N → T x = T y → x = y) (ha : a < N) (hb : b < N) (hab : ¬ Orb T N a b) : Orb (swT T a b) N a b := by
  have hne : a ≠ b := fun e => hab (by rw [e]; exact .refl _)
  have hlt' := swT_lt hlt ha hb
  have key : ∀ k, (∀ j, j < k → itT T (j + 1) b ≠ b) → Orb (swT T a b) N a (itT T (k + 1) b) := by
    intro k
    induction k with
    | zero =>
      intro _
      have : swT T a b a = T b := by unfold swT; rw [if_pos rfl]
      show Orb _ N a (T b)
      rw [← this]
      exact (Orb.refl a).fwd ha
    | succ k ih =>
      intro h
      have h1 := ih (fun j hj => h j (by omega))
      have hx := itT_lt hlt (k + 1) b hb
      have e1 : itT T (k + 1) b ≠ b := h k (by omega)
      have e2 : itT T (k + 1) b ≠ a := fun e => hab (by rw [← e]; exact (itT_orb hlt (k + 1) b hb).symm)
      have : swT T a b (itT T (k + 1) b) = itT T (k + 1 + 1) b := by
        show _ = T (itT T (k + 1) b)
        unfold swT; rw [if_neg e2, if_neg e1]
      rw [← this]
      exact h1.fwd hx
  obtain ⟨L, hL⟩ := cycle hlt hinj hb
  -- the first time
  obtain ⟨M, hM, hmin⟩ : ∃ M, itT T (M + 1) b = b ∧ ∀ j, j < M → itT T (j + 1) b ≠ b := by
    induction L using Nat.strongRecOn with
    | ind L ih =>
      by_cases hx : ∃ j, j < L ∧ itT T (j + 1) b = b
      · obtain ⟨j, hj, e⟩ := hx
        exact ih j hj e
      · exact ⟨L, hL, fun j hj e => hx ⟨j, hj, e⟩⟩
  have := key M hmin
  rw [hM] at this
  exact this
theorem orb_sub_join {T : Nat → Nat} {N a b : Nat} (ha : a < N) (hb : b < N) (hj : Orb (swT T a b) N a b) {x y : Nat} (h : Orb T N x y) : Orb (swT T a b) N x y := by
  have h2 : Orb (swT (swT T a b) a b) N x y := by rw [swT_swT]; exact h
  rcases orb_swT_mrg ha hb h2 with c | ⟨c, d⟩ | ⟨c, d⟩
  · exact c
  · exact (c.trans hj).trans d
  · exact (c.trans hj.symm).trans d
theorem cls_swT_join {T : Nat → Nat} {N a b : Nat} (hlt : ∀ x, x < N → T x < N) (hinj : ∀ x y, x < N → y < N → T x = T y → x = y) (ha : a < N) (hb : b < N) (hab : ¬ Orb T N a b) : cls (Orb (swT T a b) N) N + 1 ≤ cls (Orb T N) N := by
  have hj := orb_swT_join hlt hinj ha hb hab
  refine Nat.le_trans (Nat.succ_le_succ ?_) (cls_mrg_lt (orb_eqv T N) ha hb hab)
  refine cls_mono (fun x y h => ?_)
  rcases h with c | ⟨c, d⟩ | ⟨c, d⟩
  · exact orb_sub_join ha hb hj c
  · exact ((orb_sub_join ha hb hj c).trans hj).trans (orb_sub_join ha hb hj d)
  · exact ((orb_sub_join ha hb hj c).trans hj.symm).trans (orb_sub_join ha hb hj d)
theorem cls_swT_le {T : Nat → Nat} {N a b : Nat} (ha : a < N) (hb : b < N) : cls (Orb (swT T a b) N) N ≤ cls (Orb T N) N + 1 := by
  refine Nat.le_trans (cls_mrg_ge (orb_eqv (swT T a b) N) a b N) (Nat.succ_le_succ (cls_mono (fun x y h => ?_)))
  exact orb_swT_mrg ha hb (by rw [swT_swT]; exact h)

/-! ## Euler's inequality -/
/-- The permutation behind the exchanges, and the relation that they join. -/
def swAll (T : Nat → Nat) : List (Nat × Nat) → Nat → Nat
  | [] => T
  | p :: l => swT (swAll T l) p.1 p.2
def mrgAll (E : Nat → Nat → Prop) : List (Nat × Nat) → Nat → Nat → Prop
  | [] => E
  | p :: l => Mrg (mrgAll E l) p.1 p.2
theorem euler_le {T : Nat → Nat} {N : Nat} (hlt : ∀ x, x < N → T x < N) (hinj : ∀ x y, x < N → y < N → T x = T y → x = y) : ∀ l : List (Nat × Nat), (∀ p, p ∈ l → p.1 < N ∧ p.2 < N) →
    (∀ x, x < N → swAll T l x < N) ∧ (∀ x y, x < N → y < N → swAll T l x = swAll T l y → x = y) ∧ Eqv (mrgAll (Orb T N) l) ∧ (∀ x y, Orb (swAll T l) N x y → mrgAll (Orb T N) l x y) ∧
    cls (Orb (swAll T l) N) N + cls (Orb T N) N ≤ l.length + 2 * cls (mrgAll (Orb T N) l) N
  | [], _ => ⟨hlt, hinj, orb_eqv T N, fun _ _ h => h, by show _ ≤ 0 + 2 * cls (Orb T N) N; show cls (Orb T N) N + _ ≤ _; omega⟩
  | p :: l, h => by
    obtain ⟨i1, i2, i3, i4, i5⟩ := euler_le hlt hinj l (fun q hq => h q (List.mem_cons_of_mem _ hq))
    obtain ⟨ha, hb⟩ := h p (List.mem_cons_self ..)
    refine ⟨swT_lt i1 ha hb, swT_inj i2 ha hb, Mrg.eqv i3 _ _, fun x y q => ?_, ?_⟩
    · rcases orb_swT_mrg ha hb q with c | ⟨c, d⟩ | ⟨c, d⟩
      · exact .inl (i4 _ _ c)
      · exact .inr (.inl ⟨i4 _ _ c, i4 _ _ d⟩)
      · exact .inr (.inr ⟨i4 _ _ c, i4 _ _ d⟩)
    · show cls (Orb (swT (swAll T l) p.1 p.2) N) N + _ ≤ (l.length + 1) + 2 * cls (Mrg (mrgAll (Orb T N) l) p.1 p.2) N
      by_cases hE : mrgAll (Orb T N) l p.1 p.2
      · have h1 := cls_swT_le (T := swAll T l) ha hb
        have h2 : cls (mrgAll (Orb T N) l) N ≤ cls (Mrg (mrgAll (Orb T N) l) p.1 p.2) N := by
          refine cls_mono (fun x y q => ?_)
          rcases q with c | ⟨c, d⟩ | ⟨c, d⟩
          · exact c
          · exact i3.trans _ _ _ (i3.trans _ _ _ c hE) d
          · exact i3.trans _ _ _ (i3.trans _ _ _ c (i3.symm _ _ hE)) d
        omega
      · have h1 := cls_swT_join i1 i2 ha hb (fun q => hE (i4 _ _ q))
        have h2 := cls_mrg_ge i3 p.1 p.2 N
        omega

end Go.Proofs.YtbbpockkafbfmaaDoor
