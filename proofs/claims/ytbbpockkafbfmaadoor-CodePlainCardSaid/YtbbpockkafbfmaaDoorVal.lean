/-
  What the reference asks of each letter is what plain, ordered and paired ask.
-/
import Derived.Test.YtbbpockkafbfmaaDoorStage
import Derived.Test.YtbbpockkafbfmaaDoorRefDef
namespace Go.Proofs.YtbbpockkafbfmaaDoor
open Go.RowKit

/-- How often: one, two, three indexes. -/
theorem idx_one {p : Lt → Bool} {ls : List Lt} {i : Nat} {a : Lt} (h : ls[i]? = some a) (hp : p a = true) : 1 ≤ (ls.filter p).length := by
  have hm : a ∈ ls.filter p := List.mem_filter.2 ⟨List.mem_of_getElem? h, hp⟩
  cases hl : ls.filter p with
  | nil => rw [hl] at hm; cases hm
  | cons x r => simp
theorem idx_two {p : Lt → Bool} {ls : List Lt} {i j : Nat} {a b : Lt} (hij : i < j) (h1 : ls[i]? = some a) (h2 : ls[j]? = some b) (p1 : p a = true) (p2 : p b = true) : 2 ≤ (ls.filter p).length := by
  have e : ls = ls.take (i + 1) ++ ls.drop (i + 1) := (List.take_append_drop _ _).symm
  have x1 := idx_one (ls := ls.take (i + 1)) (i := i) (by rw [List.getElem?_take, if_pos (by omega)]; exact h1) p1
  have x2 := idx_one (ls := ls.drop (i + 1)) (i := j - (i + 1)) (by rw [List.getElem?_drop, show i + 1 + (j - (i + 1)) = j by omega]; exact h2) p2
  rw [e, List.filter_append, List.length_append]
  omega
theorem idx_three {p : Lt → Bool} {ls : List Lt} {i j k : Nat} {a b c : Lt} (hij : i < j) (hjk : j < k) (h1 : ls[i]? = some a) (h2 : ls[j]? = some b) (h3 : ls[k]? = some c) (p1 : p a = true) (p2 : p b = true) (p3 : p c = true) : 3 ≤ (ls.filter p).length := by
  have e : ls = ls.take (j + 1) ++ ls.drop (j + 1) := (List.take_append_drop _ _).symm
  have x1 := idx_two (ls := ls.take (j + 1)) hij (by rw [List.getElem?_take, if_pos (by omega)]; exact h1) (by rw [List.getElem?_take, if_pos (by omega)]; exact h2) p1 p2
  have x2 := idx_one (ls := ls.drop (j + 1)) (i := k - (j + 1)) (by rw [List.getElem?_drop, show j + 1 + (k - (j + 1)) = k by omega]; exact h3) p3
  rw [e, List.filter_append, List.length_append]
  omega
theorem idx_ex {p : Lt → Bool} {ls : List Lt} (h : 1 ≤ (ls.filter p).length) : ∃ (i : Nat) (a : Lt), ls[i]? = some a ∧ p a = true := by
  obtain ⟨a, ha⟩ : ∃ a, a ∈ ls.filter p := by
    cases hl : ls.filter p with
    | nil => rw [hl] at h; simp at h
    | cons a r => exact ⟨a, List.mem_cons_self⟩
  obtain ⟨h1, h2⟩ := List.mem_filter.1 ha
  obtain ⟨i, hi⟩ := List.getElem?_of_mem h1
  exact ⟨i, a, hi, h2⟩
theorem idx_uniq {p : Lt → Bool} {ls : List Lt} {i j : Nat} {a b : Lt} (h : cntB p ls = 1) (h1 : ls[i]? = some a) (h2 : ls[j]? = some b) (p1 : p a = true) (p2 : p b = true) : i = j := by
  unfold cntB at h
  rcases Nat.lt_trichotomy i j with c | c | c
  · have := idx_two c h1 h2 p1 p2; omega
  · exact c
  · have := idx_two c h2 h1 p2 p1; omega
theorem idx_pair {p : Lt → Bool} {ls : List Lt} {i j q : Nat} {a b c : Lt} (h : cntB p ls = 2) (hij : i ≠ j) (h1 : ls[i]? = some a) (h2 : ls[j]? = some b) (h3 : ls[q]? = some c) (p1 : p a = true) (p2 : p b = true) (p3 : p c = true) : q = i ∨ q = j := by
  unfold cntB at h
  by_cases e1 : q = i
  · exact .inl e1
  · by_cases e2 : q = j
    · exact .inr e2
    · exfalso
      have t : ∀ {x y z : Nat} {u v t : Lt}, x < y → y < z → ls[x]? = some u → ls[y]? = some v → ls[z]? = some t → p u = true → p v = true → p t = true → False := fun q1 q2 g1 g2 g3 s1 s2 s3 => by
        have := idx_three q1 q2 g1 g2 g3 s1 s2 s3; omega
      rcases Nat.lt_or_ge i j with c1 | c1
      · rcases Nat.lt_or_ge q i with c2 | c2
        · exact t c2 c1 h3 h1 h2 p3 p1 p2
        · rcases Nat.lt_or_ge q j with c3 | c3
          · exact t (show i < q by omega) c3 h1 h3 h2 p1 p3 p2
          · exact t c1 (show j < q by omega) h1 h2 h3 p1 p2 p3
      · rcases Nat.lt_or_ge q j with c2 | c2
        · exact t c2 (show j < i by omega) h3 h2 h1 p3 p2 p1
        · rcases Nat.lt_or_ge q i with c3 | c3
          · exact t (show j < q by omega) c3 h2 h3 h1 p2 p3 p1
          · exact t (show j < i by omega) (show i < q by omega) h2 h1 h3 p2 p1 p3
theorem cnt_one {p : Lt → Bool} {ls : List Lt} {i : Nat} {a : Lt} (h1 : ls[i]? = some a) (p1 : p a = true) (hu : ∀ j b, ls[j]? = some b → p b = true → j = i) : cntB p ls = 1 := by
  have h := idx_one h1 p1
  unfold cntB
  suffices h2 : (ls.filter p).length ≤ 1 by omega
  clear h
  induction ls generalizing i with
  | nil => simp
  | cons l ls ih =>
    rw [List.filter_cons]
    cases i with
    | zero =>
      have hz : ls.filter p = [] := by
        rw [List.filter_eq_nil_iff]
        intro b hb hpb
        obtain ⟨j, hj⟩ := List.getElem?_of_mem hb
        have := hu (j + 1) b hj hpb
        omega
      rw [hz]
      split <;> simp
    | succ i =>
      have hl : ¬ p l = true := fun c => by
        have := hu 0 l rfl c
        omega
      rw [if_neg hl]
      exact ih h1 (fun j b hj hb => by have := hu (j + 1) b hj hb; omega)

/-- The spot of a pass on the axis. -/
def spot (ls : List Lt) (l : Lt) : Nat := (befG ls l.gate.toNat + l.rank - 1).toNat
/-- A pass with a gate and a rank that exist. -/
def passOk (f : Int) (ls : List Lt) (l : Lt) : Prop := l.kind = 1 ∧ 0 ≤ l.gate ∧ l.gate ≤ f ∧ 1 ≤ l.rank ∧ l.rank ≤ cntB (inGate l.gate) ls
theorem passOk.spot_ {f : Int} {ls : List Lt} {l : Lt} (h : passOk f ls l) : (spot ls l : Int) = befG ls l.gate.toNat + l.rank - 1 ∧ (spot ls l : Int) < befG ls (l.gate.toNat + 1) ∧ spot ls l < numP f ls := by
  obtain ⟨_, h1, h2, h3, h4⟩ := h
  have hb := (befG_bd ls l.gate.toNat).1
  have hg : ((l.gate.toNat : Nat) : Int) = l.gate := by omega
  have e : befG ls (l.gate.toNat + 1) = befG ls l.gate.toNat + cntB (inGate l.gate) ls := by rw [befG, hg]
  have hm : befG ls (l.gate.toNat + 1) ≤ befG ls (f.toNat + 1) := befG_mono ls (by omega)
  have hn := numP_eq f ls
  rw [spot]
  omega
theorem passOk.inj {f : Int} {ls : List Lt} {a b : Lt} (ha : passOk f ls a) (hb : passOk f ls b) (h : spot ls a = spot ls b) : a.gate = b.gate ∧ a.rank = b.rank := by
  obtain ⟨a1, a2, _⟩ := ha.spot_
  obtain ⟨b1, b2, _⟩ := hb.spot_
  obtain ⟨_, g1, _, r1, _⟩ := ha
  obtain ⟨_, g2, _, r2, _⟩ := hb
  rw [h] at a1 a2
  rcases Nat.lt_trichotomy a.gate.toNat b.gate.toNat with c | c | c
  · have := befG_mono ls (g := a.gate.toNat + 1) (k := b.gate.toNat) (by omega)
    omega
  · have : a.gate = b.gate := by omega
    rw [this] at a1
    exact ⟨this, by omega⟩
  · have := befG_mono ls (g := b.gate.toNat + 1) (k := a.gate.toNat) (by omega)
    omega
/-- The order of passes: gates first, then ranks, is that of their spots. -/
theorem passOk.left {f : Int} {ls : List Lt} {a b : Lt} (ha : passOk f ls a) (hb : passOk f ls b) : (a.gate < b.gate ∨ a.gate = b.gate ∧ a.rank < b.rank) ↔ spot ls a < spot ls b := by
  obtain ⟨a1, a2, _⟩ := ha.spot_
  obtain ⟨b1, b2, _⟩ := hb.spot_
  have g1 := ha.2.1
  have g2 := hb.2.1
  have r1 := ha.2.2.2.1
  have r2 := hb.2.2.2.1
  constructor
  · rintro (h | ⟨h1, h2⟩)
    · have := befG_mono ls (g := a.gate.toNat + 1) (k := b.gate.toNat) (by omega)
      omega
    · rw [h1] at a1; omega
  · intro h
    rcases Int.lt_trichotomy a.gate b.gate with c | c | c
    · exact .inl c
    · rw [c] at a1; exact .inr ⟨c, by omega⟩
    · have := befG_mono ls (g := b.gate.toNat + 1) (k := a.gate.toNat) (by omega)
      omega
/-- What ordered has noted behind the first j letters. -/
structure OrdInv (f : Int) (ls : List Lt) (j : Nat) (st : OrdS) : Prop where
  ltk : st.tk.length = numP f ls
  ok : ∀ i l, i < j → ls[i]? = some l → l.kind = 1 → passOk f ls l
  tk : ∀ p, st.tk[p]? = some true ↔ ∃ i l, i < j ∧ ls[i]? = some l ∧ l.kind = 1 ∧ spot ls l = p
  at_ : ∀ i l, i < j → ls[i]? = some l → l.kind = 1 → st.sp.getD i 0 = spot ls l ∧ st.ax.getD (spot ls l) 0 = i
  cnt : st.tk.count false + (cntB isPass (ls.take j)).toNat = numP f ls
theorem count_set_tr {met : List Bool} {d : Nat} (h : met[d]? = some false) : (met.set d true).count false + 1 = met.count false := by
  induction met generalizing d with
  | nil => cases h
  | cons x xs ih =>
    cases d with
    | zero =>
      simp only [List.getElem?_cons_zero, Option.some.injEq] at h
      subst h
      simp
    | succ d =>
      simp only [List.getElem?_cons_succ] at h
      have := ih h
      simp only [List.set_cons_succ, List.count_cons]
      omega
theorem ordM_inv {f : Int} {ls : List Lt} (hp : ∀ l, l ∈ ls → plainL f l) : ∀ {j : Nat} {st : OrdS}, j ≤ ls.length → ordM ls (numP f ls) ls.length j = some st → OrdInv f ls j st
  | 0, st, _, h => by
    rw [ordM] at h
    injection h with h
    subst h
    refine ⟨by simp, fun i l hi => by omega, fun p => ⟨fun c => ?_, fun ⟨i, l, hi, _⟩ => by omega⟩, fun i l hi => by omega, by simp [cntB]⟩
    simp only [List.getElem?_replicate] at c
    split at c <;> simp at c
  | j + 1, st, hj, h => by
    rw [ordM] at h
    cases h0 : ordM ls (numP f ls) ls.length j with
    | none => rw [h0] at h; cases h
    | some s0 =>
      rw [h0, Option.bind_some] at h
      have I := ordM_inv hp (by omega) h0
      have F := ordM_facts (ls := ls) (m := numP f ls) (n := ls.length) (by omega) (show j ≤ ls.length by omega) h0
      have hl : ls[j]? = some ls[j] := List.getElem?_eq_getElem (by omega)
      obtain ⟨l, hle⟩ : ∃ l, ls[j] = l := ⟨_, rfl⟩
      rw [hle] at hl
      rw [hl] at h
      simp only [ordStep] at h
      have hcs := cntB_succ (p := isPass) hl
      have hcn := cntB_nonneg isPass (ls.take j)
      split at h
      · rename_i hk
        split at h
        · rename_i hr
          split at h
          · rename_i ht
            injection h with h
            have hok : passOk f ls l := by
              rcases hp l (List.mem_of_getElem? hl) with q | q
              · exact ⟨hk, q.2.2.2.2.1, q.2.2.2.2.2, hr.1, hr.2⟩
              · rw [q.1] at hk; cases hk
            have hspm := hok.spot_.2.2
            rw [show (befG ls l.gate.toNat + l.rank - 1).toNat = spot ls l from rfl] at ht h
            have hnew : ∀ i a, i < j → ls[i]? = some a → a.kind = 1 → spot ls a ≠ spot ls l := fun i a hi ha hka c => by
              have := (I.tk (spot ls l)).2 ⟨i, a, hi, ha, hka, c⟩
              rw [ht] at this
              cases this
            subst h
            refine ⟨by rw [List.length_set]; exact I.ltk, fun i a hi ha hka => ?_, fun p => ?_, fun i a hi ha hka => ?_, ?_⟩
            · by_cases e : i = j
              · subst e; rw [hl] at ha; injection ha with ha; subst ha; exact hok
              · exact I.ok i a (by omega) ha hka
            · dsimp only
              rw [List.getElem?_set]
              by_cases e : spot ls l = p
              · subst e
                rw [if_pos rfl, if_pos (by rw [I.ltk]; exact hspm)]
                exact ⟨fun _ => ⟨j, l, by omega, hl, hk, rfl⟩, fun _ => rfl⟩
              · rw [if_neg e, I.tk p]
                constructor
                · rintro ⟨i, a, hi, r⟩; exact ⟨i, a, by omega, r⟩
                · rintro ⟨i, a, hi, ha, hka, hs⟩
                  by_cases e2 : i = j
                  · subst e2; rw [hl] at ha; injection ha with ha; subst ha; exact absurd hs e
                  · exact ⟨i, a, by omega, ha, hka, hs⟩
            · dsimp only
              rw [getD_set_nat, getD_set_nat, F.2.2.1, F.2.1]
              by_cases e : i = j
              · subst e
                rw [hl] at ha
                injection ha with ha
                subst ha
                rw [if_pos ⟨rfl, by omega⟩, if_pos ⟨rfl, hspm⟩]
                exact ⟨rfl, rfl⟩
              · rw [if_neg (fun c => e c.1.symm), if_neg (fun c => hnew i a (by omega) ha hka c.1.symm)]
                exact I.at_ i a (by omega) ha hka
            · dsimp only
              have h2 := count_set_tr ht
              have h3 := I.cnt
              rw [hcs, if_pos (by simp [isPass, hk])]
              omega
          · cases h
        · cases h
      · rename_i hk
        injection h with h
        subst h
        refine ⟨I.ltk, fun i a hi ha hka => ?_, fun p => ?_, fun i a hi ha hka => ?_, ?_⟩
        · by_cases e : i = j
          · subst e; rw [hl] at ha; injection ha with ha; subst ha; exact absurd hka hk
          · exact I.ok i a (by omega) ha hka
        · rw [I.tk p]
          constructor
          · rintro ⟨i, a, hi, r⟩; exact ⟨i, a, by omega, r⟩
          · rintro ⟨i, a, hi, ha, hka, hs⟩
            by_cases e2 : i = j
            · subst e2; rw [hl] at ha; injection ha with ha; subst ha; exact absurd hka hk
            · exact ⟨i, a, by omega, ha, hka, hs⟩
        · by_cases e : i = j
          · subst e; rw [hl] at ha; injection ha with ha; subst ha; exact absurd hka hk
          · exact I.at_ i a (by omega) ha hka
        · rw [hcs, if_neg (by simp [isPass, hk])]
          have h3 := I.cnt
          simpa using h3
/-- All passes lie in the gates. -/
theorem befG_pass {f : Int} (ls : List Lt) (hp : ∀ l, l ∈ ls → l.kind = 1 → 0 ≤ l.gate ∧ l.gate ≤ f) : befG ls (f.toNat + 1) = cntB isPass ls := by
  have key : ∀ k, befG ls k = cntB (fun l => isPass l && decide (0 ≤ l.gate ∧ l.gate < (k : Int))) ls := by
    intro k
    induction k with
    | zero =>
      rw [befG]
      unfold cntB
      rw [List.filter_eq_nil_iff.2 (fun a _ => by first | (simp; done) | (simp; omega))]
      rfl
    | succ k ih =>
      rw [befG, ih]
      clear ih
      unfold cntB
      induction ls with
      | nil => rfl
      | cons a r ihr =>
        have := ihr (fun l hl => hp l (List.mem_cons_of_mem _ hl))
        simp only [List.filter_cons, isPass, inGate] at this ⊢
        by_cases hk : a.kind = 1
        · rcases Int.lt_trichotomy a.gate k with c | c | c
          · have e1 : a.gate < (k : Int) + 1 := by omega
            by_cases h0 : 0 ≤ a.gate
            · simp [hk, c, e1, h0, show ¬ a.gate = k by omega] at this ⊢; omega
            · simp [hk, c, e1, h0, show ¬ a.gate = k by omega] at this ⊢; omega
          · have e1 : a.gate < (k : Int) + 1 := by omega
            simp [hk, c, show (0 : Int) ≤ k by omega, show (k : Int) < (k : Int) + 1 by omega] at this ⊢; omega
          · simp [hk, show ¬ a.gate = k by omega, show ¬ a.gate < k by omega, show ¬ a.gate < (k : Int) + 1 by omega] at this ⊢; omega
        · simp [hk] at this ⊢; omega
  rw [key]
  unfold cntB
  congr 2
  apply List.filter_congr
  intro a ha
  by_cases hk : a.kind = 1
  · have := hp a ha hk
    simp [isPass, hk]; omega
  · simp [isPass, hk]
theorem numP_pass {f : Int} {ls : List Lt} (hp : ∀ l, l ∈ ls → plainL f l) : (numP f ls : Int) = cntB isPass ls := by
  rw [← numP_eq, befG_pass ls (fun l hl hk => by
    rcases hp l hl with q | q
    · exact ⟨q.2.2.2.2.1, q.2.2.2.2.2⟩
    · rw [q.1] at hk; cases hk)]
/-- The order of the passes is fine just if each pass is the only one of its place. -/
theorem ord_fine {f : Int} {ls : List Lt} (hp : ∀ l, l ∈ ls → plainL f l) {st : OrdS} (h : ordM ls (numP f ls) ls.length ls.length = some st) : ∀ l, l ∈ ls → l.kind = 1 → passOk f ls l ∧ cntB (sameP l) ls = 1 := by
  intro l hl hk
  have I := ordM_inv hp (Nat.le_refl _) h
  obtain ⟨i, hi⟩ := List.getElem?_of_mem hl
  have hlt : ∀ {i : Nat} {a : Lt}, ls[i]? = some a → i < ls.length := fun {i a} e => by
    rcases Nat.lt_or_ge i ls.length with q | q
    · exact q
    · rw [List.getElem?_eq_none q] at e; cases e
  refine ⟨I.ok i l (hlt hi) hi hk, cnt_one hi (by simp [sameP]) fun j b hj hb => ?_⟩
  simp [sameP] at hb
  have h1 := (I.at_ i l (hlt hi) hi hk).2
  have h2 := (I.at_ j b (hlt hj) hj (hb.1.1.trans hk)).2
  have : spot ls b = spot ls l := by unfold spot; rw [hb.1.2, hb.2]
  rw [this, h1] at h2
  exact h2.symm
theorem ord_exists {f : Int} {ls : List Lt} (hp : ∀ l, l ∈ ls → plainL f l) (hr : ∀ l, l ∈ ls → l.kind = 1 → passOk f ls l ∧ cntB (sameP l) ls = 1) : ∀ j, j ≤ ls.length → ∃ st, ordM ls (numP f ls) ls.length j = some st
  | 0, _ => ⟨_, rfl⟩
  | j + 1, hj => by
    obtain ⟨st, h0⟩ := ord_exists hp hr j (by omega)
    have I := ordM_inv hp (by omega) h0
    have hl : ls[j]? = some ls[j] := List.getElem?_eq_getElem (by omega)
    obtain ⟨l, hle⟩ : ∃ l, ls[j] = l := ⟨_, rfl⟩
    rw [hle] at hl
    rw [ordM_succ h0 hl]
    unfold ordStep
    by_cases hk : l.kind = 1
    · obtain ⟨h1, h2⟩ := hr l (List.mem_of_getElem? hl) hk
      have hs := h1.spot_.2.2
      have ht : st.tk[(befG ls l.gate.toNat + l.rank - 1).toNat]? = some false := by
        show st.tk[spot ls l]? = some false
        have hlt : spot ls l < st.tk.length := by rw [I.ltk]; exact hs
        rw [List.getElem?_eq_getElem hlt]
        cases hb : st.tk[spot ls l] with
        | false => rfl
        | true =>
          obtain ⟨i, a, hi, ha, hka, hsa⟩ := (I.tk (spot ls l)).1 (by rw [List.getElem?_eq_getElem hlt, hb])
          obtain ⟨e1, e2⟩ := (I.ok i a hi ha hka).inj h1 hsa
          have := idx_uniq h2 ha hl (by simp [sameP, e1, e2, hk, hka]) (by simp [sameP])
          omega
      rw [if_pos hk, if_pos ⟨h1.2.2.2.1, h1.2.2.2.2⟩, if_pos ht]
      exact ⟨_, rfl⟩
    · rw [if_neg hk]
      exact ⟨_, rfl⟩
/-- Behind the letters that have been gone through, no other visit is noted. -/
theorem pairM_zero {ls : List Lt} {xc : Int} : ∀ {j : Nat} {st : PairS}, pairM ls xc ls.length j = some st → ∀ i, i < ls.length → j ≤ i → st.ot[i]? = some 0
  | 0, st, h, i, hi, _ => by
    rw [pairM] at h
    injection h with h
    subst h
    simp [hi]
  | j + 1, st, h, i, hi, hj => by
    rw [pairM] at h
    cases h0 : pairM ls xc ls.length j with
    | none => rw [h0] at h; cases h
    | some s0 =>
      rw [h0, Option.bind_some] at h
      have ih := pairM_zero h0 i hi (by omega)
      cases hl : ls[j]? with
      | none => rw [hl] at h; injection h with h; subst h; exact ih
      | some l =>
        rw [hl] at h
        simp only [pairStep] at h
        split at h
        · split at h
          · rename_i f hf
            split at h
            · injection h with h
              subst h
              have := pairM_vis h0 _ _ hf
              dsimp only
              rw [List.getElem?_set_ne (by omega), List.getElem?_set_ne (by omega)]
              exact ih
            · cases h
          · split at h
            · injection h with h; subst h; exact ih
            · cases h
        · injection h with h; subst h; exact ih
/-- What paired has noted behind the first j letters. -/
structure PairInv (ls : List Lt) (xc : Int) (j : Nat) (st : PairS) : Prop where
  len : st.ot.length = ls.length
  none : ∀ x, st.vis x = none → cntB (isId x) (ls.take j) = 0
  some : ∀ x k, st.vis x = some k → 1 ≤ x ∧ x ≤ xc ∧ ∃ l, k < j ∧ ls[k]? = some l ∧ l.kind = 2 ∧ l.id = x ∧
    ((cntB (isId x) (ls.take j) = 1 ∧ st.ot[k]? = some 0) ∨ (cntB (isId x) (ls.take j) = 2 ∧ ∃ i a, k < i ∧ i < j ∧ ls[i]? = some a ∧ a.kind = 2 ∧ a.id = x ∧ l = otherL a ∧ st.ot[k]? = some i ∧ st.ot[i]? = some k))
theorem cnt_id_zero {x : Int} {ls : List Lt} {j i : Nat} {l : Lt} (h : cntB (isId x) (ls.take j) = 0) (hi : i < j) (hl : ls[i]? = some l) (hk : l.kind = 2) : l.id ≠ x := by
  intro e
  have := idx_one (p := isId x) (ls := ls.take j) (i := i) (a := l) (by rw [List.getElem?_take, if_pos hi]; exact hl) (by simp [isId, hk, e])
  unfold cntB at h
  omega
theorem pairM_inv {ls : List Lt} {xc : Int} : ∀ {j : Nat} {st : PairS}, j ≤ ls.length → pairM ls xc ls.length j = some st → PairInv ls xc j st
  | 0, st, _, h => by
    rw [pairM] at h
    injection h with h
    subst h
    exact ⟨by simp, fun x _ => by simp [cntB], fun x k hx => by cases hx⟩
  | j + 1, st, hj, h => by
    rw [pairM] at h
    cases h0 : pairM ls xc ls.length j with
    | none => rw [h0] at h; cases h
    | some s0 =>
      rw [h0, Option.bind_some] at h
      have I := pairM_inv (by omega) h0
      have hl : ls[j]? = some ls[j] := List.getElem?_eq_getElem (by omega)
      obtain ⟨l, hle⟩ : ∃ l, ls[j] = l := ⟨_, rfl⟩
      rw [hle] at hl
      rw [hl] at h
      simp only [pairStep] at h
      have hcs := fun x => cntB_succ (p := isId x) hl
      split at h
      · rename_i hk
        split at h
        · rename_i f hf
          split at h
          · rename_i hc
            injection h with h
            subst h
            obtain ⟨g1, g2, lf, g3, g4, g5, g6, g7⟩ := I.some _ _ hf
            have hlf : lf = otherL l := by have := hc.2; rw [g4] at this; injection this
            have hone : cntB (isId l.id) (ls.take j) = 1 := by
              rcases g7 with q | ⟨_, i, a, q1, q2, _, _, _, _, q3, _⟩
              · exact q.1
              · rw [hc.1] at q3; injection q3 with q3; omega
            refine ⟨by simp [I.len], fun x hx => ?_, fun x k hx => ?_⟩
            · have h1 := I.none x hx
              rw [hcs x, h1]
              by_cases e : l.id = x
              · subst e; rw [hf] at hx; cases hx
              · simp [isId, e]
            · dsimp only at hx ⊢
              by_cases e : l.id = x
              · subst e
                rw [hf] at hx
                injection hx with hx
                subst hx
                refine ⟨g1, g2, lf, by omega, g4, g5, g6, .inr ⟨by rw [hcs, hone]; simp [isId, hk], j, l, g3, by omega, hl, hk, rfl, hlf, ?_, ?_⟩⟩
                · rw [List.getElem?_set_ne (by omega), List.getElem?_set_self (by rw [I.len]; omega)]
                · rw [List.getElem?_set_self (by rw [List.length_set, I.len]; omega)]
              · obtain ⟨q1, q2, lk, q3, q4, q5, q6, q7⟩ := I.some x k hx
                have hcx : cntB (isId x) (ls.take (j + 1)) = cntB (isId x) (ls.take j) := by rw [hcs x]; simp [isId, e]
                have hkf : k ≠ f := fun c => by subst c; rw [g4] at q4; injection q4 with q4; subst q4; exact e (g6.symm.trans q6)
                refine ⟨q1, q2, lk, by omega, q4, q5, q6, ?_⟩
                rw [hcx]
                rcases q7 with ⟨q7, q8⟩ | ⟨q7, i, a, q8, q9, q10, q11, q12, q13, q14, q15⟩
                · refine .inl ⟨q7, ?_⟩
                  rw [List.getElem?_set_ne (by omega), List.getElem?_set_ne (fun c => hkf c.symm)]
                  exact q8
                · refine .inr ⟨q7, i, a, q8, by omega, q10, q11, q12, q13, ?_, ?_⟩
                  · rw [List.getElem?_set_ne (by omega), List.getElem?_set_ne (fun c => hkf c.symm)]
                    exact q14
                  · rw [List.getElem?_set_ne (by omega), List.getElem?_set_ne (fun c => by subst c; rw [g4] at q10; injection q10 with q10; subst q10; exact e (g6.symm.trans q12))]
                    exact q15
          · cases h
        · rename_i hf
          split at h
          · rename_i hr
            injection h with h
            subst h
            have hz := I.none _ hf
            refine ⟨I.len, fun x hx => ?_, fun x k hx => ?_⟩
            · dsimp only at hx
              split at hx
              · cases hx
              · rename_i e
                rw [hcs x, I.none x hx]
                simp [isId, show ¬ l.id = x from fun c => e c.symm]
            · dsimp only at hx ⊢
              split at hx
              · rename_i e
                subst e
                injection hx with hx
                subst hx
                refine ⟨hr.1, hr.2, l, by omega, hl, hk, rfl, .inl ⟨by rw [hcs, hz]; simp [isId, hk], ?_⟩⟩
                have hF := pairM_zero h0
                exact hF j (by omega) (Nat.le_refl _)
              · rename_i e
                obtain ⟨q1, q2, lk, q3, q4, q5, q6, q7⟩ := I.some x k hx
                have hcx : cntB (isId x) (ls.take (j + 1)) = cntB (isId x) (ls.take j) := by rw [hcs x]; simp [isId, show ¬ l.id = x from fun c => e c.symm]
                refine ⟨q1, q2, lk, by omega, q4, q5, q6, ?_⟩
                rw [hcx]
                rcases q7 with q7 | ⟨q7, i, a, q8, q9, q10⟩
                · exact .inl q7
                · exact .inr ⟨q7, i, a, q8, by omega, q10⟩
          · cases h
      · rename_i hk
        injection h with h
        subst h
        have hcx : ∀ x, cntB (isId x) (ls.take (j + 1)) = cntB (isId x) (ls.take j) := fun x => by rw [hcs x]; simp [isId, hk]
        refine ⟨I.len, fun x hx => by rw [hcx]; exact I.none x hx, fun x k hx => ?_⟩
        obtain ⟨q1, q2, lk, q3, q4, q5, q6, q7⟩ := I.some x k hx
        refine ⟨q1, q2, lk, by omega, q4, q5, q6, ?_⟩
        rw [hcx]
        rcases q7 with q7 | ⟨q7, i, a, q8, q9, q10⟩
        · exact .inl q7
        · exact .inr ⟨q7, i, a, q8, by omega, q10⟩
/-- How many visits the crossings 1 to k have. -/
def sumId (ls : List Lt) : Nat → Int
  | 0 => 0
  | k + 1 => sumId ls k + cntB (isId ((k : Int) + 1)) ls
theorem sumId_eq (ls : List Lt) : ∀ k, sumId ls k = cntB (fun l => decide (l.kind = 2) && decide (1 ≤ l.id ∧ l.id ≤ (k : Int))) ls := by
  intro k
  induction k with
  | zero =>
    rw [sumId]
    unfold cntB
    rw [List.filter_eq_nil_iff.2 (fun a _ => by first | (simp; done) | (simp; omega))]
    rfl
  | succ k ih =>
    rw [sumId, ih]
    clear ih
    unfold cntB
    induction ls with
    | nil => rfl
    | cons a r ihr =>
      simp only [List.filter_cons, isId] at ihr ⊢
      by_cases hk : a.kind = 2
      · rcases Int.lt_trichotomy a.id ((k : Int) + 1) with c | c | c
        · have e1 : a.id ≤ (k : Int) := by omega
          have e2 : a.id ≤ (k : Int) + 1 := by omega
          by_cases h0 : 1 ≤ a.id
          · simp [hk, e1, e2, h0, show ¬ a.id = (k : Int) + 1 by omega] at ihr ⊢; omega
          · simp [hk, h0, show ¬ a.id = (k : Int) + 1 by omega] at ihr ⊢; omega
        · simp [hk, c, show ¬ (k : Int) + 1 ≤ k by omega, show (1 : Int) ≤ (k : Int) + 1 by omega] at ihr ⊢; omega
        · simp [hk, show ¬ a.id = (k : Int) + 1 by omega, show ¬ a.id ≤ (k : Int) by omega, show ¬ a.id ≤ (k : Int) + 1 by omega] at ihr ⊢; omega
      · simp [hk] at ihr ⊢; omega
theorem sum_le {ls : List Lt} (h : ∀ x, cntB (isId x) ls ≤ 2) : ∀ k, sumId ls k ≤ 2 * k
  | 0 => by simp [sumId]
  | k + 1 => by
    have := sum_le h k
    have := h ((k : Int) + 1)
    rw [sumId]
    omega
theorem sum_lt {ls : List Lt} (h : ∀ x, cntB (isId x) ls ≤ 2) {x : Int} (hx : 1 ≤ x) (h1 : cntB (isId x) ls ≤ 1) : ∀ k : Nat, x ≤ k → sumId ls k ≤ 2 * k - 1
  | 0, hk => by omega
  | k + 1, hk => by
    have h2 := h ((k : Int) + 1)
    rw [sumId]
    by_cases e : x = (k : Int) + 1
    · have := sum_le h k
      rw [← e]
      omega
    · have := sum_lt h hx h1 k (by omega)
      omega
theorem lt_len {ls : List Lt} {i : Nat} {a : Lt} (e : ls[i]? = some a) : i < ls.length := by
  rcases Nat.lt_or_ge i ls.length with q | q
  · exact q
  · rw [List.getElem?_eq_none q] at e; cases e
/-- Each visit has its other visit. -/
theorem pair_other {ls : List Lt} {st : PairS} (h : pairM ls (cntK 2 ls / 2) ls.length ls.length = some st) : ∀ (i : Nat) (l : Lt), ls[i]? = some l → l.kind = 2 →
    1 ≤ l.id ∧ l.id ≤ cntK 2 ls / 2 ∧ cntB (isId l.id) ls = 2 ∧ ∃ (k : Nat) (a : Lt), k ≠ i ∧ ls[k]? = some a ∧ a.kind = 2 ∧ a.id = l.id ∧ (l = otherL a ∨ a = otherL l) ∧ st.ot[i]? = some k ∧ st.ot[k]? = some i := by
  have I := pairM_inv (Nat.le_refl _) h
  have hI : ∀ x k, st.vis x = some k → 1 ≤ x ∧ x ≤ cntK 2 ls / 2 ∧ ∃ l, k < ls.length ∧ ls[k]? = some l ∧ l.kind = 2 ∧ l.id = x ∧
    ((cntB (isId x) ls = 1 ∧ st.ot[k]? = some 0) ∨ (cntB (isId x) ls = 2 ∧ ∃ i a, k < i ∧ i < ls.length ∧ ls[i]? = some a ∧ a.kind = 2 ∧ a.id = x ∧ l = otherL a ∧ st.ot[k]? = some i ∧ st.ot[i]? = some k)) := by
    have := I.some
    simp only [List.take_length] at this
    exact this
  have hN : ∀ x, st.vis x = none → cntB (isId x) ls = 0 := by
    have := I.none
    simp only [List.take_length] at this
    exact this
  have h2 : ∀ x, cntB (isId x) ls ≤ 2 := by
    intro x
    cases hv : st.vis x with
    | none => rw [hN x hv]; decide
    | some k =>
      obtain ⟨_, _, l, _, _, _, _, q⟩ := hI x k hv
      rcases q with q | q <;> omega
  have hvis : ∀ (i : Nat) (l : Lt), ls[i]? = some l → l.kind = 2 → ∃ k, st.vis l.id = some k := by
    intro i l hl hk
    cases hv : st.vis l.id with
    | none =>
      exact absurd rfl (cnt_id_zero (x := l.id) (j := ls.length) (by rw [List.take_length]; exact hN _ hv) (lt_len hl) hl hk)
    | some k => exact ⟨k, rfl⟩
  have hx0 := cntK_nonneg 2 ls
  obtain ⟨xn, hxn⟩ : ∃ xn : Nat, cntK 2 ls / 2 = xn := ⟨(cntK 2 ls / 2).toNat, by omega⟩
  have hsum : sumId ls xn = cntK 2 ls := by
    rw [sumId_eq, cntK_eq]
    unfold cntB
    congr 2
    apply List.filter_congr
    intro a ha
    by_cases hk : a.kind = 2
    · obtain ⟨i, hi⟩ := List.getElem?_of_mem ha
      obtain ⟨k, hv⟩ := hvis i a hi hk
      obtain ⟨q1, q2, _⟩ := hI _ _ hv
      rw [hxn] at q2
      simp [hk, q1, q2]
    · simp [hk]
  intro i l hl hk
  obtain ⟨k, hv⟩ := hvis i l hl hk
  obtain ⟨q1, q2, lk, q3, q4, q5, q6, q7⟩ := hI _ _ hv
  have hall : ¬ cntB (isId l.id) ls = 1 := fun c => by
    have := sum_lt h2 q1 (by omega) xn (by omega)
    omega
  obtain ⟨c2, i2, a, r1, r2, r3, r4, r5, r6, r7, r8⟩ : cntB (isId l.id) ls = 2 ∧ ∃ i a, k < i ∧ i < ls.length ∧ ls[i]? = some a ∧ a.kind = 2 ∧ a.id = l.id ∧ lk = otherL a ∧ st.ot[k]? = some i ∧ st.ot[i]? = some k := by
    rcases q7 with q7 | q7
    · exact absurd q7.1 hall
    · exact q7
  refine ⟨q1, q2, c2, ?_⟩
  have hik : i = k ∨ i = i2 := idx_pair (p := isId l.id) c2 (by omega) q4 r3 hl (by simp [isId, q5, q6]) (by simp [isId, r4, r5]) (by simp [isId, hk])
  rcases hik with e | e
  · subst e
    rw [hl] at q4; injection q4 with q4; subst q4
    exact ⟨i2, a, by omega, r3, r4, r5, .inl r6, r7, r8⟩
  · subst e
    rw [hl] at r3; injection r3 with r3; subst r3
    exact ⟨k, lk, by omega, q4, q5, q6, .inr r6, r8, r7⟩
theorem otherL_facts {a : Lt} (h : a.kind = 2) : (otherL a).kind = 2 ∧ (otherL a).id = a.id ∧ (otherL a).sign = a.sign ∧ (otherL a).over = !a.over ∧ (otherL a).gate = a.gate ∧ (otherL a).rank = a.rank := by
  simp [otherL, h]
theorem pair_fine {ls : List Lt} {st : PairS} (h : pairM ls (cntK 2 ls / 2) ls.length ls.length = some st) : ∀ l, l ∈ ls → l.kind = 2 → 1 ≤ l.id ∧ l.id ≤ cntK 2 ls / 2 ∧ cntB (pairP l) ls = 1 ∧ cntB (isId l.id) ls = 2 := by
  intro l hl hk
  obtain ⟨i, hi⟩ := List.getElem?_of_mem hl
  obtain ⟨h1, h2, h3, k, a, h4, h5, h6, h7, h8, _⟩ := pair_other h i l hi hk
  refine ⟨h1, h2, ?_, h3⟩
  have hpp : pairP l a = true := by
    rcases h8 with e | e
    · obtain ⟨o1, o2, o3, o4, _⟩ := otherL_facts h6
      rw [e]
      simp [pairP, o1, o2, o3, o4, h6]
    · obtain ⟨o1, o2, o3, o4, _⟩ := otherL_facts hk
      rw [e]
      simp [pairP, o1, o2, o3, o4, hk]
  refine cnt_one h5 hpp fun j b hj hb => ?_
  simp only [pairP, Bool.and_eq_true, decide_eq_true_eq] at hb
  rcases idx_pair (p := isId l.id) h3 h4 h5 hi hj (by simp [isId, h6, h7]) (by simp [isId, hk]) (by simp [isId, hb.1.1.1, hb.1.1.2, hk]) with e | e
  · exact e
  · subst e
    rw [hi] at hj; injection hj with hj; subst hj
    exact absurd rfl hb.2
theorem pair_exists {f : Int} {ls : List Lt} {xc : Int} (hp : ∀ l, l ∈ ls → plainL f l) (hr : ∀ l, l ∈ ls → l.kind = 2 → 1 ≤ l.id ∧ l.id ≤ xc ∧ cntB (pairP l) ls = 1 ∧ cntB (isId l.id) ls = 2) : ∀ j, j ≤ ls.length → ∃ st, pairM ls xc ls.length j = some st
  | 0, _ => ⟨_, rfl⟩
  | j + 1, hj => by
    obtain ⟨st, h0⟩ := pair_exists hp hr j (by omega)
    have I := pairM_inv (by omega) h0
    have hl : ls[j]? = some ls[j] := List.getElem?_eq_getElem (by omega)
    obtain ⟨l, hle⟩ : ∃ l, ls[j] = l := ⟨_, rfl⟩
    rw [hle] at hl
    rw [pairM_succ h0 hl]
    unfold pairStep
    by_cases hk : l.kind = 2
    · obtain ⟨h1, h2, h3, h4⟩ := hr l (List.mem_of_getElem? hl) hk
      rw [if_pos hk]
      cases hv : st.vis l.id with
      | none =>
        dsimp only
        rw [if_pos ⟨h1, h2⟩]
        exact ⟨_, rfl⟩
      | some k =>
        dsimp only
        obtain ⟨_, _, lk, g3, g4, g5, g6, g7⟩ := I.some _ _ hv
        have hot : st.ot[k]? = some 0 := by
          rcases g7 with q | ⟨_, i, a, q1, q2, q3, q4, q5, _⟩
          · exact q.2
          · exfalso
            have h9 := idx_three (p := isId l.id) q1 q2 g4 q3 hl (by simp [isId, g5, g6]) (by simp [isId, q4, q5]) (by simp [isId, hk])
            unfold cntB at h4
            omega
        have hlk : ls[k]? = some (otherL l) := by
          obtain ⟨q, o, hq, ho⟩ := idx_ex (p := pairP l) (ls := ls) (by unfold cntB at h3; omega)
          simp only [pairP, Bool.and_eq_true, decide_eq_true_eq] at ho
          rcases idx_pair (p := isId l.id) h4 (show k ≠ j by omega) g4 hl hq (by simp [isId, g5, g6]) (by simp [isId, hk]) (by simp [isId, ho.1.1.1, ho.1.1.2, hk]) with e | e
          · subst e
            rw [hq]
            congr 1
            obtain ⟨o1, o2, o3, o4, o5, o6⟩ := otherL_facts hk
            have pl := hp l (List.mem_of_getElem? hl)
            have po := hp o (List.mem_of_getElem? hq)
            have hko : o.kind = 2 := ho.1.1.1.trans hk
            have zl : l.gate = 0 ∧ l.rank = 0 := by
              rcases pl with c | c
              · rw [c.1] at hk; cases hk
              · exact ⟨c.2.1, c.2.2.1⟩
            have zo : o.gate = 0 ∧ o.rank = 0 := by
              rcases po with c | c
              · rw [c.1] at hko; cases hko
              · exact ⟨c.2.1, c.2.2.1⟩
            apply Lt.ext
            · rw [o1]; exact hko
            · rw [o5, zl.1]; exact zo.1
            · rw [o6, zl.2]; exact zo.2
            · rw [o2]; exact ho.1.1.2
            · rw [o3]; exact ho.1.2
            · rw [o4]
              have := ho.2
              cases hA : o.over <;> cases hB : l.over <;> simp_all
          · subst e
            rw [hl] at hq; injection hq with hq; subst hq
            exact absurd rfl ho.2
        rw [if_pos ⟨hot, hlk⟩]
        exact ⟨_, rfl⟩
    · rw [if_neg hk]
      exact ⟨_, rfl⟩
theorem valid_iff {f : Int} {ls : List Lt} : (∀ l, l ∈ ls → refL f ls l) ↔ (∀ l, l ∈ ls → plainL f l) ∧ (∃ st, ordM ls (numP f ls) ls.length ls.length = some st) ∧ ∃ pt, pairM ls (cntK 2 ls / 2) ls.length ls.length = some pt := by
  constructor
  · intro h
    have hp : ∀ l, l ∈ ls → plainL f l := fun l hl => by
      rcases h l hl with c | c
      · exact .inl ⟨c.1, c.2.1, c.2.2.1, c.2.2.2.1, c.2.2.2.2.1, c.2.2.2.2.2.1⟩
      · exact .inr ⟨c.1, c.2.1, c.2.2.1, c.2.2.2.1⟩
    refine ⟨hp, ord_exists hp (fun l hl hk => ?_) _ (Nat.le_refl _), pair_exists hp (fun l hl hk => ?_) _ (Nat.le_refl _)⟩
    · rcases h l hl with c | c
      · exact ⟨⟨hk, c.2.2.2.2.1, c.2.2.2.2.2.1, c.2.2.2.2.2.2.1, c.2.2.2.2.2.2.2.1⟩, c.2.2.2.2.2.2.2.2⟩
      · rw [c.1] at hk; cases hk
    · rcases h l hl with c | c
      · rw [c.1] at hk; cases hk
      · exact ⟨c.2.2.2.2.1, c.2.2.2.2.2.1, c.2.2.2.2.2.2.1, c.2.2.2.2.2.2.2⟩
  · rintro ⟨hp, ⟨st, hs⟩, ⟨pt, hq⟩⟩ l hl
    rcases hp l hl with c | c
    · obtain ⟨h1, h2⟩ := ord_fine hp hs l hl c.1
      exact .inl ⟨c.1, c.2.1, c.2.2.1, c.2.2.2.1, c.2.2.2.2.1, c.2.2.2.2.2, h1.2.2.2.1, h1.2.2.2.2, h2⟩
    · obtain ⟨h1, h2, h3, h4⟩ := pair_fine hq l hl c.1
      exact .inr ⟨c.1, c.2.1, c.2.2.1, c.2.2.2, h1, h2, h3, h4⟩

end Go.Proofs.YtbbpockkafbfmaaDoor
