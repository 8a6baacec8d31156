/-
  Arcs on two sides of an axis: there are as many faces as the plane has if and only if no two arcs cross (pure, for CodePlain).
-/
import Derived.Test.YtbbpockkafbfmaaDoorSide
namespace Go.Proofs.YtbbpockkafbfmaaDoor
open Go.RowKit

theorem nx_up {m s : Nat} (h : s < m) : nextM m s true = if s + 1 = m then 0 else s + 1 := by
  unfold nextM
  rw [if_pos rfl, Nat.add_mod_right]
  split
  · rename_i e; rw [e, Nat.mod_self]
  · exact Nat.mod_eq_of_lt (by omega)
theorem nx_dn {m s : Nat} (h : s < m) : nextM m s false = if s = 0 then m - 1 else s - 1 := by
  unfold nextM
  rw [if_neg (by simp)]
  split
  · rename_i e; subst e; rw [Nat.zero_add, Nat.mod_eq_of_lt (by omega)]
  · rw [show s + m - 1 = s - 1 + m by omega, Nat.add_mod_right, Nat.mod_eq_of_lt (by omega)]

/-- Darts at the places of an axis, two at each, one on each side. -/
structure Chd (n : Nat) (S p : Nat → Nat) (u : Nat → Bool) : Prop where
  n2 : 2 ≤ n
  lt : ∀ x, x < 2 * n → S x < 2 * n
  inj : ∀ x y, x < 2 * n → y < 2 * n → S x = S y → x = y
  pb : ∀ x, x < 2 * n → p x < n
  ps : ∀ x, x < 2 * n → p (S x) = nextM n (p x) (u x)
  us : ∀ x, x < 2 * n → u (S x) = u x
  ur : ∀ x, x < 2 * n → u (revM x) = u x
  uq : ∀ x y, x < 2 * n → y < 2 * n → u x = u y → p x = p y → x = y
  ex : ∀ (q : Nat) (v : Bool), q < n → ∃ x, x < 2 * n ∧ p x = q ∧ u x = v

def loE (p : Nat → Nat) (e : Nat) : Nat := min (p (2 * e)) (p (2 * e + 1))
def hiE (p : Nat → Nat) (e : Nat) : Nat := max (p (2 * e)) (p (2 * e + 1))
/-- No two arcs on one side cross. -/
def NCh (n : Nat) (p : Nat → Nat) (u : Nat → Bool) : Prop := ∀ a b, a < n → b < n → u (2 * a) = u (2 * b) → ¬ (loE p a < loE p b ∧ loE p b < hiE p a ∧ hiE p a < hiE p b)

theorem rev_even (e : Nat) : revM (2 * e) = 2 * e + 1 := by unfold revM; rw [if_pos (by omega)]
theorem rev_odd (e : Nat) : revM (2 * e + 1) = 2 * e := by unfold revM; rw [if_neg (by omega)]; omega
section
variable {n : Nat} {S p : Nat → Nat} {u : Nat → Bool}
theorem Chd.ends (h : Chd n S p u) {x : Nat} (hx : x < 2 * n) : (p x = loE p (x / 2) ∧ p (revM x) = hiE p (x / 2) ∨ p x = hiE p (x / 2) ∧ p (revM x) = loE p (x / 2)) ∧ u (2 * (x / 2)) = u x ∧ u (2 * (x / 2) + 1) = u x ∧ loE p (x / 2) < hiE p (x / 2) := by
  have hne : p (2 * (x / 2)) ≠ p (2 * (x / 2) + 1) := by
    intro e
    have h1 := h.ur (2 * (x / 2)) (by omega)
    rw [rev_even] at h1
    have := h.uq _ _ (by omega) (by omega) h1.symm e
    omega
  have hl : loE p (x / 2) < hiE p (x / 2) := by unfold loE hiE; omega
  rcases Nat.mod_two_eq_zero_or_one x with e | e
  · have e1 : x = 2 * (x / 2) := by omega
    have h1 := h.ur x hx
    have e2 : revM x = 2 * (x / 2) + 1 := by rw [e1, rev_even]; omega
    rw [e2] at h1
    refine ⟨?_, by rw [← e1], h1, hl⟩
    rw [e2]
    unfold loE hiE
    rw [← e1]
    omega
  · have e1 : x = 2 * (x / 2) + 1 := by omega
    have h1 := h.ur x hx
    have e2 : revM x = 2 * (x / 2) := by rw [e1, rev_odd]; omega
    rw [e2] at h1
    refine ⟨?_, h1, by rw [← e1], hl⟩
    rw [e2]
    unfold loE hiE
    rw [← e1]
    omega
/-- Ends of different arcs on one side are different places. -/
theorem Chd.apart (h : Chd n S p u) {x e : Nat} (hx : x < 2 * n) (he : e < n) (hne : e ≠ x / 2) (hu : u (2 * e) = u x) : loE p e ≠ p x ∧ hiE p e ≠ p x := by
  have h1 := h.ur (2 * e) (by omega)
  rw [rev_even] at h1
  have a : p (2 * e) ≠ p x := fun c => by have := h.uq _ _ (by omega) hx hu c; omega
  have b : p (2 * e + 1) ≠ p x := fun c => by have := h.uq _ _ (by omega) hx (h1.trans hu) c; omega
  unfold loE hiE
  omega

/-! ## No crossing: a label for each arc and for each side -/
def encB (p : Nat → Nat) (u : Nat → Bool) (v : Bool) (γ e : Nat) : Bool := (u (2 * e) == v) && decide (loE p e < γ) && decide (γ ≤ hiE p e)
def mxE (p : Nat → Nat) (u : Nat → Bool) (v : Bool) (γ : Nat) : Nat → Nat
  | 0 => 0
  | k + 1 => max (mxE p u v γ k) (if encB p u v γ k then loE p k + 1 else 0)
theorem mx_congr {v : Bool} {γ δ : Nat} : ∀ k, (∀ e, e < k → encB p u v γ e = encB p u v δ e) → mxE p u v γ k = mxE p u v δ k
  | 0, _ => rfl
  | k + 1, h => by rw [mxE, mxE, mx_congr k (fun e he => h e (by omega)), h k (by omega)]
theorem mx_zero {v : Bool} {γ : Nat} : ∀ k, (∀ e, e < k → encB p u v γ e = false) → mxE p u v γ k = 0
  | 0, _ => rfl
  | k + 1, h => by rw [mxE, mx_zero k (fun e he => h e (by omega)), h k (by omega)]; rfl
theorem mx_top {v : Bool} {γ : Nat} : ∀ k, mxE p u v γ k ≤ γ
  | 0 => Nat.zero_le _
  | k + 1 => by
    have := mx_top (v := v) (γ := γ) k
    rw [mxE]
    split
    · rename_i h
      unfold encB at h
      simp only [Bool.and_eq_true, decide_eq_true_eq] at h
      omega
    · omega
theorem mx_at {v : Bool} {γ : Nat} : ∀ k e, e < k → encB p u v γ e = true → loE p e + 1 ≤ mxE p u v γ k
  | 0, _, he, _ => absurd he (Nat.not_lt_zero _)
  | k + 1, e, he, h => by
    rw [mxE]
    by_cases c : e = k
    · subst c; rw [if_pos h]; omega
    · have := mx_at k e (by omega) h; omega
/-- The gap behind which a dart leaves. -/
def gapL (p : Nat → Nat) (u : Nat → Bool) (x : Nat) : Nat := if u x then p x else p x + 1
def labC (n : Nat) (p : Nat → Nat) (u : Nat → Bool) (x : Nat) : Nat := 2 * mxE p u (u x) (gapL p u x) n + (if u x then 1 else 0)
theorem Chd.hi_lt (h : Chd n S p u) {e : Nat} (he : e < n) : hiE p e < n := by
  have a := h.pb (2 * e) (by omega)
  have b := h.pb (2 * e + 1) (by omega)
  unfold hiE
  omega
theorem Chd.lab (h : Chd n S p u) (hc : NCh n p u) {x : Nat} (hx : x < 2 * n) : labC n p u (S (revM x)) = labC n p u x := by
  have hr := rev_lt (n := n) hx
  have e1 : u (S (revM x)) = u x := by rw [h.us _ hr, h.ur _ hx]
  have e2 : p (S (revM x)) = nextM n (p (revM x)) (u x) := by rw [h.ps _ hr, h.ur _ hx]
  have hb := h.pb _ hr
  have ha := h.pb _ hx
  unfold labC
  rw [e1]
  have key : mxE p u (u x) (gapL p u (S (revM x))) n = mxE p u (u x) (gapL p u x) n := by
    refine mx_congr n (fun e he => ?_)
    unfold encB
    by_cases hs : u (2 * e) = u x
    · rw [hs, beq_self_eq_true, Bool.true_and, Bool.true_and]
      have hhi := h.hi_lt he
      obtain ⟨hen, hu0, _, hlt⟩ := h.ends hx
      -- the arc of the dart, or another one
      have hg : (loE p e < gapL p u (S (revM x)) ∧ gapL p u (S (revM x)) ≤ hiE p e) ↔ (loE p e < gapL p u x ∧ gapL p u x ≤ hiE p e) := by
        unfold gapL
        rw [e1, e2]
        by_cases hee : e = x / 2
        · subst hee
          cases hux : u x with
          | true =>
            rw [if_pos rfl, if_pos rfl, nx_up hb]
            split <;> omega
          | false =>
            rw [if_neg (by simp), if_neg (by simp), nx_dn hb]
            split <;> omega
        · obtain ⟨a1, a2⟩ := h.apart hx he hee hs
          have hee' : e ≠ revM x / 2 := by rw [rev_half]; exact hee
          obtain ⟨b1, b2⟩ := h.apart hr he hee' (by rw [h.ur _ hx]; exact hs)
          have c1 := hc e (x / 2) he (by omega) (by rw [hs, hu0])
          have c2 := hc (x / 2) e (by omega) he (by rw [hs, hu0])
          have hle : loE p e ≤ hiE p e := by unfold loE hiE; omega
          cases hux : u x with
          | true =>
            rw [if_pos rfl, if_pos rfl, nx_up hb]
            split <;> omega
          | false =>
            rw [if_neg (by simp), if_neg (by simp), nx_dn hb]
            split <;> omega
      rw [Bool.eq_iff_iff, Bool.and_eq_true, Bool.and_eq_true, decide_eq_true_eq, decide_eq_true_eq, decide_eq_true_eq, decide_eq_true_eq]
      exact hg
    · have e3 : (u (2 * e) == u x) = false := by simpa using hs
      rw [e3]; rfl
  rw [key]
theorem chord_fine (h : Chd n S p u) (hc : NCh n p u) : n + 2 ≤ cls (Orb (fun x => S (revM x)) (2 * n)) (2 * n) := by
  have hn := h.n2
  have hl : (0 :: 1 :: (List.range n).map fun e => 2 * (loE p e + 1) + (if u (2 * e) then 1 else 0)).length = n + 2 := by simp
  rw [← hl]
  have key : ∀ x y, Orb (fun x => S (revM x)) (2 * n) x y → labC n p u x = labC n p u y := by
    intro x y q
    induction q with
    | refl => rfl
    | fwd _ hy ih => rw [ih, h.lab hc hy]
    | bwd _ hy ih => rw [ih, h.lab hc hy]
  refine cls_labels (orb_eqv _ _) (labC n p u) (fun x y q _ _ => key x y q) _ ?_ (fun c hcm => ?_)
  · have hm : ∀ z, z ∈ (List.range n).map (fun e => 2 * (loE p e + 1) + (if u (2 * e) then 1 else 0)) → 2 ≤ z := by
      intro z hz
      obtain ⟨e, _, rfl⟩ := List.mem_map.1 hz
      omega
    refine List.nodup_cons.2 ⟨fun q => ?_, List.nodup_cons.2 ⟨fun q => ?_, ?_⟩⟩
    · rcases List.mem_cons.1 q with q | q
      · cases q
      · have := hm _ q; omega
    · have := hm _ q; omega
    · refine map_nodup List.nodup_range (fun a b ha hb hab => ?_)
      have ha' := List.mem_range.1 ha
      have hb' := List.mem_range.1 hb
      have hu : u (2 * a) = u (2 * b) := by
        cases h1 : u (2 * a) <;> cases h2 : u (2 * b) <;> rw [h1, h2] at hab <;> first | rfl | (simp at hab; omega)
      have hlo : loE p a = loE p b := by rw [hu] at hab; omega
      apply Classical.byContradiction
      intro hne
      obtain ⟨k1, k2, k3, _⟩ := h.ends (x := 2 * a) (by omega)
      have e0 : 2 * a / 2 = a := by omega
      rw [e0] at k1 k3
      have m1 := (h.apart (x := 2 * a) (e := b) (by omega) hb' (by omega) hu.symm).1
      have m2 := (h.apart (x := 2 * a + 1) (e := b) (by omega) hb' (by omega) (by rw [k3]; exact hu.symm)).1
      rw [rev_even] at k1
      rcases k1 with ⟨q, _⟩ | ⟨_, q⟩
      · exact m1 (by rw [q]; exact hlo.symm)
      · exact m2 (by rw [q]; exact hlo.symm)
  · rcases List.mem_cons.1 hcm with rfl | hcm
    · obtain ⟨x, hx, hp, hu⟩ := h.ex (n - 1) false (by omega)
      refine ⟨x, hx, ?_⟩
      unfold labC
      rw [hu, mx_zero n (fun e he => ?_)]
      · rfl
      · have := h.hi_lt he
        unfold encB gapL
        rw [hu, if_neg (by simp), hp, Bool.and_eq_false_iff]
        right
        rw [decide_eq_false_iff_not]
        omega
    · rcases List.mem_cons.1 hcm with rfl | hcm
      · obtain ⟨x, hx, hp, hu⟩ := h.ex 0 true (by omega)
        refine ⟨x, hx, ?_⟩
        unfold labC
        rw [hu, mx_zero n (fun e he => ?_)]
        · rfl
        · unfold encB gapL
          rw [hu, if_pos rfl, hp, Bool.and_eq_false_iff, Bool.and_eq_false_iff]
          left; right
          rw [decide_eq_false_iff_not]
          omega
      · obtain ⟨e, he, rfl⟩ := List.mem_map.1 hcm
        have he' := List.mem_range.1 he
        have hhi := h.hi_lt he'
        obtain ⟨_, _, _, hlt⟩ := h.ends (x := 2 * e) (by omega)
        rw [show 2 * e / 2 = e by omega] at hlt
        obtain ⟨x, hx, hg, hu⟩ : ∃ x, x < 2 * n ∧ gapL p u x = loE p e + 1 ∧ u x = u (2 * e) := by
          cases hv : u (2 * e) with
          | true =>
            obtain ⟨x, hx, hp, hu⟩ := h.ex (loE p e + 1) true (by omega)
            exact ⟨x, hx, by unfold gapL; rw [hu, if_pos rfl, hp], hu⟩
          | false =>
            obtain ⟨x, hx, hp, hu⟩ := h.ex (loE p e) false (by omega)
            exact ⟨x, hx, by unfold gapL; rw [hu, if_neg (by simp), hp], hu⟩
        refine ⟨x, hx, ?_⟩
        unfold labC
        rw [hg, hu]
        have h1 := mx_top (p := p) (u := u) (v := u (2 * e)) (γ := loE p e + 1) n
        have h2 := mx_at (p := p) (u := u) (v := u (2 * e)) (γ := loE p e + 1) n e he' (by
          unfold encB
          rw [beq_self_eq_true, Bool.true_and, Bool.and_eq_true, decide_eq_true_eq, decide_eq_true_eq]
          omega)
        rw [show mxE p u (u (2 * e)) (loE p e + 1) n = loE p e + 1 by omega]

/-! ## A crossing: two exchanges that make no faces -/
theorem Chd.reach (h : Chd n S p u) {v : Bool} {x0 : Nat} (h0 : x0 < 2 * n) (hp : p x0 = 0) (hu : u x0 = v) : ∀ (q : Nat) (x : Nat), x < 2 * n → p x = q → u x = v → Orb S (2 * n) x0 x
  | 0, x, hx, hq, hv => by rw [h.uq x x0 hx h0 (hv.trans hu.symm) (hq.trans hp.symm)]; exact .refl _
  | q + 1, x, hx, hq, hv => by
    have hb := h.pb x hx
    obtain ⟨y, hy, hyp, hyu⟩ := h.ex q v (by omega)
    have ih := h.reach h0 hp hu q y hy hyp hyu
    cases v with
    | true =>
      have e : S y = x := by
        refine h.uq _ _ (h.lt y hy) hx ?_ ?_
        · rw [h.us y hy, hyu, hv]
        · rw [h.ps y hy, hyu, hyp, nx_up (by omega), if_neg (by omega), hq]
      rw [← e]
      exact .fwd ih hy
    | false =>
      have e : S x = y := by
        refine h.uq _ _ (h.lt x hx) hy ?_ ?_
        · rw [h.us x hx, hyu, hv]
        · rw [h.ps x hx, hv, hq, nx_dn (by omega), if_neg (by omega), hyp, Nat.add_sub_cancel]
      rw [← e] at ih
      exact .bwd ih hx
theorem Chd.two (h : Chd n S p u) : cls (Orb S (2 * n)) (2 * n) ≤ 2 := by
  have hn := h.n2
  obtain ⟨a, ha, pa, ua⟩ := h.ex 0 true (by omega)
  obtain ⟨b, hb, pb, ub⟩ := h.ex 0 false (by omega)
  have hE := Mrg.eqv (orb_eqv S (2 * n)) a b
  have hall : ∀ x, x < 2 * n → Mrg (Orb S (2 * n)) a b a x := by
    intro x hx
    cases hv : u x with
    | true => exact .inl (h.reach ha pa ua _ x hx rfl hv)
    | false => exact .inr (.inl ⟨.refl _, h.reach hb pb ub _ x hx rfl hv⟩)
  have h1 := cls_mrg_ge (orb_eqv S (2 * n)) a b (2 * n)
  have h2 := cls_le_one (E := Mrg (Orb S (2 * n)) a b) (2 * n) (fun x hx => hE.trans _ _ _ (hE.symm _ _ (hall 0 (by omega))) (hall x hx))
  omega
/-- Between the ends of an arc, on its side. -/
def inB (p : Nat → Nat) (u : Nat → Bool) (a x : Nat) : Bool := (u x == u (2 * a)) && (if u (2 * a) then decide (loE p a < p x ∧ p x ≤ hiE p a) else decide (loE p a ≤ p x ∧ p x < hiE p a))
theorem Chd.inb (h : Chd n S p u) {a : Nat} (ha : a < n) (hh : hiE p a + 1 < n) {x : Nat} (hx : x < 2 * n) : inB p u a (swT S (2 * a) (2 * a + 1) x) = inB p u a x := by
  obtain ⟨k1, _, k3, hlt⟩ := h.ends (x := 2 * a) (by omega)
  have e0 : 2 * a / 2 = a := by omega
  rw [e0] at k1 k3 hlt
  rw [rev_even] at k1
  have hpx := h.pb x hx
  have h2a : 2 * a < 2 * n := by omega
  have h2b : 2 * a + 1 < 2 * n := by omega
  have q1 := h.pb _ h2a
  have q2 := h.pb _ h2b
  unfold swT
  by_cases c1 : x = 2 * a
  · rw [if_pos c1]
    unfold inB
    rw [h.us _ h2b, h.ps _ h2b, k3, c1, beq_self_eq_true, Bool.true_and, Bool.true_and]
    cases hu : u (2 * a) with
    | true =>
      rw [if_pos rfl, if_pos rfl, nx_up q2, decide_eq_decide]
      split <;> omega
    | false =>
      rw [if_neg (by simp), if_neg (by simp), nx_dn q2, decide_eq_decide]
      split <;> omega
  · rw [if_neg c1]
    by_cases c2 : x = 2 * a + 1
    · rw [if_pos c2]
      unfold inB
      rw [h.us _ h2a, h.ps _ h2a, c2, k3, beq_self_eq_true, Bool.true_and, Bool.true_and]
      cases hu : u (2 * a) with
      | true =>
        rw [if_pos rfl, if_pos rfl, nx_up q1, decide_eq_decide]
        split <;> omega
      | false =>
        rw [if_neg (by simp), if_neg (by simp), nx_dn q1, decide_eq_decide]
        split <;> omega
    · rw [if_neg c2]
      unfold inB
      rw [h.us _ hx, h.ps _ hx]
      by_cases hs : u x = u (2 * a)
      · have hap := h.apart (x := x) (e := a) hx ha (by omega) hs.symm
        rw [hs, beq_self_eq_true, Bool.true_and, Bool.true_and]
        cases hu : u (2 * a) with
        | true =>
          rw [if_pos rfl, if_pos rfl, nx_up hpx, decide_eq_decide]
          split <;> omega
        | false =>
          rw [if_neg (by simp), if_neg (by simp), nx_dn hpx, decide_eq_decide]
          split <;> omega
      · have e3 : (u x == u (2 * a)) = false := by simpa using hs
        rw [e3]; rfl
theorem cls_swAll_le {T : Nat → Nat} {N : Nat} : ∀ (l : List (Nat × Nat)) (k : List (Nat × Nat)), (∀ q, q ∈ l → q.1 < N ∧ q.2 < N) → cls (Orb (swAll T (l ++ k)) N) N ≤ l.length + cls (Orb (swAll T k) N) N
  | [], k, _ => by rw [List.nil_append, List.length_nil, Nat.zero_add]; exact Nat.le_refl _
  | q :: l, k, hb => by
    obtain ⟨h1, h2⟩ := hb q (List.mem_cons_self ..)
    have ih := cls_swAll_le (T := T) (N := N) l k (fun z hz => hb z (List.mem_cons_of_mem _ hz))
    have := cls_swT_le (T := swAll T (l ++ k)) h1 h2
    show cls (Orb (swT (swAll T (l ++ k)) q.1 q.2) N) N ≤ (l.length + 1) + _
    omega
theorem chord_cross (h : Chd n S p u) (hc : ¬ NCh n p u) : cls (Orb (fun x => S (revM x)) (2 * n)) (2 * n) ≤ n := by
  obtain ⟨a, b, ha, hb, hu, h1, h2, h3⟩ : ∃ a b, a < n ∧ b < n ∧ u (2 * a) = u (2 * b) ∧ loE p a < loE p b ∧ loE p b < hiE p a ∧ hiE p a < hiE p b := by
    apply Classical.byContradiction
    intro hno
    exact hc (fun a b ha hb hu q => hno ⟨a, b, ha, hb, hu, q⟩)
  have hab : a ≠ b := fun e => by subst e; omega
  have hhb := h.hi_lt hb
  have h2a : 2 * a < 2 * n := by omega
  have h2b : 2 * b < 2 * n := by omega
  -- the first exchange
  have hlt1 := swT_lt (T := S) (N := 2 * n) (a := 2 * a) (b := 2 * a + 1) h.lt (by omega) (by omega)
  have hinj1 := swT_inj (T := S) (N := 2 * n) (a := 2 * a) (b := 2 * a + 1) h.inj (by omega) (by omega)
  have c1 := cls_swT_le (T := S) (N := 2 * n) (a := 2 * a) (b := 2 * a + 1) (by omega) (by omega)
  have c0 := h.two
  -- the second
  obtain ⟨k1, _, k3, _⟩ := h.ends (x := 2 * b) h2b
  rw [show 2 * b / 2 = b by omega, rev_even] at k1
  rw [show 2 * b / 2 = b by omega] at k3
  have hno : ¬ Orb (swT S (2 * a) (2 * a + 1)) (2 * n) (2 * b) (2 * b + 1) := by
    intro q
    have key : ∀ x y, Orb (swT S (2 * a) (2 * a + 1)) (2 * n) x y → inB p u a x = inB p u a y := by
      intro x y q
      induction q with
      | refl => rfl
      | fwd _ hy ih => rw [ih, h.inb ha (by omega) hy]
      | bwd _ hy ih => rw [ih, h.inb ha (by omega) hy]
    have hk := key _ _ q
    unfold inB at hk
    rw [k3, ← hu, beq_self_eq_true, Bool.true_and, Bool.true_and] at hk
    cases hv : u (2 * a) with
    | true =>
      rw [hv, if_pos rfl, if_pos rfl, decide_eq_decide] at hk
      omega
    | false =>
      rw [hv, if_neg (by simp), if_neg (by simp), decide_eq_decide] at hk
      omega
  have c2 := cls_swT_join hlt1 hinj1 h2b (by omega) hno
  -- the others
  have hr : (((List.range n).erase a).erase b).length = n - 2 := by
    rw [List.length_erase_of_mem (List.Nodup.mem_erase_iff List.nodup_range |>.2 ⟨hab.symm, List.mem_range.2 hb⟩), List.length_erase_of_mem (List.mem_range.2 ha), List.length_range]
    omega
  have hn1 : ((List.range n).erase a).Nodup := List.nodup_range.erase _
  have hn2 : (((List.range n).erase a).erase b).Nodup := hn1.erase _
  have hmem : ∀ x, x ∈ ((List.range n).erase a).erase b ↔ x ≠ b ∧ x ≠ a ∧ x < n := by
    intro x
    rw [hn1.mem_erase_iff, List.nodup_range.mem_erase_iff, List.mem_range]
  have hnd : (((List.range n).erase a).erase b ++ [b, a]).Nodup := by
    rw [List.nodup_append]
    refine ⟨hn2, by simp [hab.symm], fun x hx y hy e => ?_⟩
    have := (hmem x).1 hx
    simp at hy
    omega
  have c3 := cls_swAll_le (T := S) (N := 2 * n) (edgesM (((List.range n).erase a).erase b)) (edgesM [b, a]) (fun q hq => by
    obtain ⟨e, he, rfl⟩ := List.mem_map.1 hq
    have := (hmem e).1 he
    exact ⟨by show 2 * e < _; omega, by show 2 * e + 1 < _; omega⟩)
  have hl : (edgesM (((List.range n).erase a).erase b)).length = n - 2 := by unfold edgesM; rw [List.length_map, hr]
  have happ : edgesM (((List.range n).erase a).erase b) ++ edgesM [b, a] = edgesM (((List.range n).erase a).erase b ++ [b, a]) := by unfold edgesM; rw [List.map_append]
  rw [hl, happ] at c3
  have heq : ∀ x, x < 2 * n → swAll S (edgesM (((List.range n).erase a).erase b ++ [b, a])) x = S (revM x) := by
    intro x hx
    rw [swAll_edges _ _ hnd, if_pos]
    rw [List.mem_append, hmem]
    simp
    omega
  have c4 : cls (Orb (fun x => S (revM x)) (2 * n)) (2 * n) ≤ cls (Orb (swAll S (edgesM (((List.range n).erase a).erase b ++ [b, a]))) (2 * n)) (2 * n) := cls_mono (fun x y q => orb_congr heq q)
  have c5 : cls (Orb (swAll S (edgesM [b, a])) (2 * n)) (2 * n) = cls (Orb (swT (swT S (2 * a) (2 * a + 1)) (2 * b) (2 * b + 1)) (2 * n)) (2 * n) := rfl
  have hn := h.n2
  omega
end

end Go.Proofs.YtbbpockkafbfmaaDoor
