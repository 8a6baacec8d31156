/-
  A valid code without a finger, or with a new one, is valid (pure).
-/
import Derived.Test.YtplpccgbciglpaaDoorVsimV
import Derived.Test.YtplpccgbciglpaaDoorForget2
import Derived.Test.YtplpccgbciglpaaDoorInsA
namespace Go.Proofs.YtplpccgbciglpaaDoor
open Go.RowKit

theorem cntB_congr {p q : Lt → Bool} {ls : List Lt} (e : ∀ o, o ∈ ls → p o = q o) : cntB p ls = cntB q ls := by
  unfold cntB
  congr 2
  exact List.filter_congr e
theorem cntB_zero {p : Lt → Bool} {ls : List Lt} (e : ∀ o, o ∈ ls → p o = false) : cntB p ls = 0 := by
  rw [cntB_congr (q := fun _ => false) e]
  simp [cntB]
theorem cntB_split {p q r : Lt → Bool} : ∀ {ls : List Lt}, (∀ o, o ∈ ls → (if p o then 1 else 0 : Int) = (if q o then 1 else 0) + (if r o then 1 else 0)) → cntB p ls = cntB q ls + cntB r ls
  | [], _ => rfl
  | a :: ls, h => by
    have ih := cntB_split (p := p) (q := q) (r := r) (ls := ls) (fun o ho => h o (List.mem_cons_of_mem _ ho))
    have e : ∀ s : Lt → Bool, cntB s (a :: ls) = (if s a then 1 else 0) + cntB s ls := by
      intro s
      unfold cntB
      rw [List.filter_cons]
      split
      · simp; omega
      · simp
    have := h a (List.mem_cons_self ..)
    rw [e p, e q, e r, ih]
    omega
theorem cntB_mono {p q : Lt → Bool} {ls : List Lt} (h : ∀ o, o ∈ ls → p o = true → q o = true) : cntB p ls ≤ cntB q ls := by
  have e := cntB_split (p := q) (q := p) (r := fun o => q o && !p o) (ls := ls) (fun o ho => by
    have := h o ho
    cases hp : p o <;> cases hq : q o <;> simp_all)
  have := cntB_nonneg (fun o => q o && !p o) ls
  omega
/-- The passes of a gate with ranks above a, up to b. -/
def inR (g a b : Int) (l : Lt) : Bool := inGate g l && (decide (a < l.rank) && decide (l.rank ≤ b))
theorem inR_iff {g a b : Int} {l : Lt} : inR g a b l = true ↔ (l.kind = 1 ∧ l.gate = g) ∧ a < l.rank ∧ l.rank ≤ b := by simp [inR, inGate]
theorem inGate_iff {g : Int} {l : Lt} : inGate g l = true ↔ l.kind = 1 ∧ l.gate = g := by simp [inGate]
theorem cnt_rank_le {f : Int} {ls : List Lt} (hr : ∀ l, l ∈ ls → refL f ls l) (g a : Int) : ∀ d : Nat, cntB (inR g a (a + d)) ls ≤ d
  | 0 => by
    rw [cntB_zero (fun o _ => ?_)]
    · omega
    · rw [Bool.eq_false_iff]
      intro h
      have := inR_iff.1 h
      omega
  | d + 1 => by
    have ih := cnt_rank_le hr g a d
    have e := cntB_split (p := inR g a (a + ((d + 1 : Nat) : Int))) (q := inR g a (a + d)) (r := fun o => inGate g o && decide (o.rank = a + d + 1)) (ls := ls) (fun o _ => by
      by_cases hg : inGate g o = true
      · unfold inR
        rw [hg]
        simp only [Bool.true_and, Bool.and_eq_true, decide_eq_true_eq]
        by_cases h1 : a < o.rank
        · by_cases h2 : o.rank ≤ a + d
          · rw [if_pos ⟨h1, by omega⟩, if_pos ⟨h1, h2⟩, if_neg (by omega)]; rfl
          · by_cases h3 : o.rank = a + d + 1
            · rw [if_pos ⟨h1, by omega⟩, if_neg (by omega), if_pos h3]; rfl
            · rw [if_neg (by omega), if_neg (by omega), if_neg h3]; rfl
        · rw [if_neg (by omega), if_neg (by omega), if_neg (by omega)]; rfl
      · have hg' : inGate g o = false := by simpa using hg
        unfold inR
        rw [hg']
        rfl)
    have h1 : cntB (fun o => inGate g o && decide (o.rank = a + d + 1)) ls ≤ 1 := by
      by_cases hx : ∃ l, l ∈ ls ∧ (inGate g l && decide (l.rank = a + d + 1)) = true
      · obtain ⟨l, hl, hp⟩ := hx
        simp only [Bool.and_eq_true, decide_eq_true_eq] at hp
        obtain ⟨hg, hrk⟩ := hp
        obtain ⟨k1, hgt⟩ := inGate_iff.1 hg
        rcases hr l hl with c | c
        · have hm := cntB_mono (p := fun o => inGate g o && decide (o.rank = a + d + 1)) (q := sameP l) (ls := ls) (fun o _ ho => by
            simp only [Bool.and_eq_true, decide_eq_true_eq] at ho
            obtain ⟨g1, r1⟩ := ho
            obtain ⟨g2, g3⟩ := inGate_iff.1 g1
            simp [sameP, k1, g2, hgt, g3, hrk, r1])
          have := c.2.2.2.2.2.2.2.2
          omega
        · rw [c.1] at k1; cases k1
      · rw [cntB_zero (fun o ho => ?_)]
        · omega
        · rw [Bool.eq_false_iff]
          exact fun h => hx ⟨o, ho, h⟩
    omega
theorem cnt_ranks {f : Int} {ls : List Lt} (hr : ∀ l, l ∈ ls → refL f ls l) {g v : Int} (h0 : 0 ≤ v) (h1 : v ≤ cntB (inGate g) ls) : cntB (inR g 0 v) ls = v ∧ cntB (inR g v (cntB (inGate g) ls)) ls = cntB (inGate g) ls - v := by
  obtain ⟨c, hc⟩ : ∃ c, cntB (inGate g) ls = c := ⟨_, rfl⟩
  have hsum : cntB (inGate g) ls = cntB (inR g 0 v) ls + cntB (inR g v c) ls := cntB_split (fun o ho => by
    by_cases hg : inGate g o = true
    · obtain ⟨k1, hgt⟩ := inGate_iff.1 hg
      rcases hr o ho with q | q
      · have a1 := q.2.2.2.2.2.2.1
        have a2 := q.2.2.2.2.2.2.2.1
        rw [hgt, hc] at a2
        unfold inR
        rw [hg]
        simp only [Bool.true_and, Bool.and_eq_true, decide_eq_true_eq]
        by_cases h2 : o.rank ≤ v
        · rw [if_pos trivial, if_pos ⟨by omega, h2⟩, if_neg (by omega)]; rfl
        · rw [if_pos trivial, if_neg (by omega), if_pos ⟨by omega, a2⟩]; rfl
      · rw [q.1] at k1; cases k1
    · have hg' : inGate g o = false := by simpa using hg
      unfold inR
      rw [hg']
      rfl)
  obtain ⟨d, rfl⟩ := Int.eq_ofNat_of_zero_le h0
  obtain ⟨m, hm⟩ := Int.eq_ofNat_of_zero_le (a := c - d) (by omega)
  have e1 := cnt_rank_le hr g 0 d
  have e2 := cnt_rank_le hr g d m
  rw [Int.zero_add] at e1
  rw [show (d : Int) + (m : Int) = c by omega] at e2
  rw [hc] at hsum h1 ⊢
  omega

/-! ## Forget -/
theorem forg_kind (k q : Int) (l : Lt) : (forgL k q l).kind = l.kind := rfl
theorem forg_gate {ls : List Lt} {k q : Int} (x : Int) : cntB (inGate x) (ls.map (forgL k q)) = if x < k - 1 then cntB (inGate x) ls else if x = k - 1 then cntB (inGate x) ls + cntB (inGate k) ls else cntB (inGate (x + 1)) ls := by
  have hi : ∀ o : Lt, inGate x (forgL k q o) = true ↔ o.kind = 1 ∧ (if k ≤ o.gate then o.gate - 1 else o.gate) = x := by
    intro o
    rw [inGate_iff]
    show o.kind = 1 ∧ (if o.kind = 1 ∧ k ≤ o.gate then o.gate - 1 else o.gate) = x ↔ _
    by_cases h1 : o.kind = 1
    · simp [h1]
    · simp [h1]
  split
  · rename_i hx
    refine cntB_map (fun o _ => ?_)
    rw [Bool.eq_iff_iff, hi, inGate_iff]
    constructor
    · rintro ⟨a, b⟩; refine ⟨a, ?_⟩; split at b <;> omega
    · rintro ⟨a, b⟩; refine ⟨a, ?_⟩; rw [if_neg (by omega)]; exact b
  · split
    · rename_i hx
      rw [cntB_map (q := fun o => inGate x (forgL k q o)) (fun o _ => rfl)]
      refine cntB_split (fun o _ => ?_)
      by_cases a : inGate x (forgL k q o) = true
      · rw [if_pos a]
        have b := (hi o).1 a
        by_cases c : o.gate = k
        · rw [if_neg (by rw [inGate_iff]; omega), if_pos (by rw [inGate_iff]; exact ⟨b.1, c⟩)]; rfl
        · have : o.gate = x := by have := b.2; split at this <;> omega
          rw [if_pos (by rw [inGate_iff]; exact ⟨b.1, this⟩), if_neg (by rw [inGate_iff]; omega)]; rfl
      · rw [if_neg a]
        have hn : ∀ y, y = x ∨ y = k → ¬ inGate y o = true := fun y hy h => a ((hi o).2 ⟨(inGate_iff.1 h).1, by have := (inGate_iff.1 h).2; split <;> omega⟩)
        rw [if_neg (hn x (.inl rfl)), if_neg (hn k (.inr rfl))]; rfl
    · refine cntB_map (fun o _ => ?_)
      rw [Bool.eq_iff_iff, hi, inGate_iff]
      constructor
      · rintro ⟨a, b⟩; refine ⟨a, ?_⟩; split at b <;> omega
      · rintro ⟨a, b⟩; refine ⟨a, ?_⟩; rw [if_pos (by omega)]; omega
theorem forg_bef {ls : List Lt} {K : Nat} {q : Int} : ∀ j, befG (ls.map (forgL ((K : Int) + 1) q)) j = if j ≤ K then befG ls j else befG ls (j + 1)
  | 0 => by rw [if_pos (by omega)]; rfl
  | j + 1 => by
    rw [befG, forg_bef j, forg_gate]
    rcases Nat.lt_trichotomy j K with h | h | h
    · rw [if_pos (by omega), if_pos (by omega), if_pos (by omega)]; rfl
    · subst h
      rw [if_pos (by omega), if_neg (by omega), if_pos (by omega), if_neg (by omega)]
      show _ = befG ls j + cntB (inGate (j : Int)) ls + cntB (inGate ((j + 1 : Nat) : Int)) ls
      rw [Int.natCast_add]
      show _ = _ + _ + cntB (inGate ((j : Int) + 1)) ls
      omega
    · rw [if_neg (by omega), if_neg (by omega), if_neg (by omega), if_neg (by omega)]
      show _ = befG ls (j + 1) + cntB (inGate ((j + 1 : Nat) : Int)) ls
      rw [Int.natCast_add]
      rfl
theorem forg_spot {ls : List Lt} {k : Int} (h1 : 1 ≤ k) {l : Lt} (k1 : l.kind = 1) (hg : 0 ≤ l.gate) : spot (ls.map (forgL k (cntB (inGate (k - 1)) ls))) (forgL k (cntB (inGate (k - 1)) ls) l) = spot ls l := by
  obtain ⟨K, rfl⟩ : ∃ K : Nat, k = (K : Int) + 1 := ⟨(k - 1).toNat, by omega⟩
  unfold spot
  rw [forg_bef]
  show (_ + (if l.kind = 1 ∧ l.gate = (K : Int) + 1 then l.rank + _ else l.rank) - 1).toNat = _
  have e : (forgL ((K : Int) + 1) (cntB (inGate ((K : Int) + 1 - 1)) ls) l).gate = if (K : Int) + 1 ≤ l.gate then l.gate - 1 else l.gate := by
    show (if l.kind = 1 ∧ (K : Int) + 1 ≤ l.gate then l.gate - 1 else l.gate) = _
    simp [k1]
  rw [e]
  obtain ⟨G, hG⟩ := Int.eq_ofNat_of_zero_le hg
  rw [hG]
  by_cases a : (K : Int) + 1 ≤ G
  · rw [if_pos a]
    by_cases b : (G : Int) = (K : Int) + 1
    · have e2 : ((G : Int) - 1).toNat = K := by omega
      have e3 : (G : Int).toNat = K + 1 := by omega
      rw [e2, e3, if_pos (Nat.le_refl _), if_pos ⟨k1, b⟩, befG]
      rw [show (K : Int) + 1 - 1 = (K : Int) by omega]
      congr 1; omega
    · have e2 : ((G : Int) - 1).toNat = G - 1 := by omega
      rw [e2, if_neg (by omega), if_neg (by omega), Int.toNat_natCast, show G - 1 + 1 = G by omega]
  · rw [if_neg a, Int.toNat_natCast, if_pos (show G ≤ K by omega), if_neg (by omega)]
theorem refL_forg {f : Int} {ls : List Lt} {k : Int} (h1 : 1 ≤ k) (h2 : k ≤ f) (hr : ∀ l, l ∈ ls → refL f ls l) : ∀ l, l ∈ ls.map (forgL k (cntB (inGate (k - 1)) ls)) → refL (f - 1) (ls.map (forgL k (cntB (inGate (k - 1)) ls))) l := by
  obtain ⟨q, hq⟩ : ∃ q, cntB (inGate (k - 1)) ls = q := ⟨_, rfl⟩
  rw [hq]
  have hq0 : 0 ≤ q := by rw [← hq]; exact cntB_nonneg _ _
  have eg : ∀ l : Lt, l.kind = 1 → (forgL k q l).gate = if k ≤ l.gate then l.gate - 1 else l.gate := by
    intro l k1
    show (if l.kind = 1 ∧ k ≤ l.gate then l.gate - 1 else l.gate) = _
    simp [k1]
  have er : ∀ l : Lt, l.kind = 1 → (forgL k q l).rank = if l.gate = k then l.rank + q else l.rank := by
    intro l k1
    show (if l.kind = 1 ∧ l.gate = k then l.rank + q else l.rank) = _
    simp [k1]
  refine refL_map (fun l _ => rfl) (fun l hl k1 => ?_) (fun l o hl ho kl ko hg hrk => ?_) (fun l hl k2 => ?_) (fun l o _ _ _ _ => rfl) (fun l o _ _ _ _ => Iff.rfl) hr
  · rcases hr l hl with c | c
    · obtain ⟨_, c1, c2, c3, c4, c5, c6, c7, _⟩ := c
      refine ⟨c1, c2, c3, ?_, ?_, ?_, ?_⟩
      · rw [eg l k1]; split <;> omega
      · rw [eg l k1]; split <;> omega
      · rw [er l k1]; split <;> omega
      · rw [er l k1, forg_gate, eg l k1]
        by_cases a : l.gate = k
        · have e1 : (if k ≤ l.gate then l.gate - 1 else l.gate) = k - 1 := by rw [if_pos (by omega)]; omega
          rw [if_pos a, e1, if_neg (by omega), if_pos rfl, hq]
          rw [a] at c7
          omega
        · rw [if_neg a]
          have hk0 := cntB_nonneg (inGate k) ls
          by_cases b : k ≤ l.gate
          · have e1 : (if k ≤ l.gate then l.gate - 1 else l.gate) = l.gate - 1 := if_pos b
            rw [e1, if_neg (by omega), if_neg (by omega), show l.gate - 1 + 1 = l.gate by omega]
            exact c7
          · have e1 : (if k ≤ l.gate then l.gate - 1 else l.gate) = l.gate := if_neg b
            rw [e1]
            split
            · exact c7
            · rw [if_pos (by omega)]; omega
    · rw [c.1] at k1; cases k1
  · rcases hr l hl with c | c
    · rcases hr o ho with d | d
      · rw [eg l kl, eg o ko] at hg
        rw [er l kl, er o ko] at hrk
        have c7 := c.2.2.2.2.2.2.2.1
        have d7 := d.2.2.2.2.2.2.2.1
        have c6 := c.2.2.2.2.2.2.1
        have d6 := d.2.2.2.2.2.2.1
        by_cases a : l.gate = k <;> by_cases b : o.gate = k
        · rw [if_pos a, if_pos b] at hrk; omega
        · rw [if_pos a, if_neg b] at hrk
          rw [if_pos (show k ≤ l.gate by omega)] at hg
          have e : o.gate = k - 1 := by split at hg <;> omega
          rw [e, hq] at d7
          omega
        · rw [if_neg a, if_pos b] at hrk
          rw [if_pos (show k ≤ o.gate by omega)] at hg
          have e : l.gate = k - 1 := by split at hg <;> omega
          rw [e, hq] at c7
          omega
        · rw [if_neg a, if_neg b] at hrk
          split at hg <;> split at hg <;> omega
      · rw [d.1] at ko; cases ko
    · rw [c.1] at kl; cases kl
  · rcases hr l hl with c | c
    · rw [c.1] at k2; cases k2
    · refine ⟨?_, ?_, c.2.2.2.1, c.2.2.2.2.1, c.2.2.2.2.2.1⟩
      · show (if l.kind = 1 ∧ k ≤ l.gate then l.gate - 1 else l.gate) = 0
        rw [if_neg (by omega)]; exact c.2.1
      · show (if l.kind = 1 ∧ l.gate = k then l.rank + q else l.rank) = 0
        rw [if_neg (by omega)]; exact c.2.2.1

/-! ## Insert -/
theorem ins_kind (g v : Int) (l : Lt) : (insL g v l).kind = l.kind := by unfold insL; split <;> rfl
theorem ins_shift {g v : Int} {l : Lt} (h : l.kind = 1 ∧ (g < l.gate ∨ l.gate = g ∧ v < l.rank)) : insL g v l = ⟨l.kind, l.gate + 1, if l.gate = g then l.rank - v else l.rank, l.id, l.sign, l.over⟩ := by unfold insL; rw [if_pos h]
theorem ins_stay {g v : Int} {l : Lt} (h : ¬ (l.kind = 1 ∧ (g < l.gate ∨ l.gate = g ∧ v < l.rank))) : insL g v l = l := by unfold insL; rw [if_neg h]
theorem ins_gate_iff {g v x : Int} {o : Lt} : inGate x (insL g v o) = true ↔ o.kind = 1 ∧ (if g < o.gate ∨ o.gate = g ∧ v < o.rank then o.gate + 1 else o.gate) = x := by
  rw [inGate_iff, ins_kind]
  by_cases h1 : o.kind = 1
  · by_cases h2 : g < o.gate ∨ o.gate = g ∧ v < o.rank
    · rw [ins_shift ⟨h1, h2⟩, if_pos h2]
    · rw [ins_stay (fun h => h2 h.2), if_neg h2]
  · simp [h1]
theorem ins_gate {f : Int} {ls : List Lt} (hr : ∀ l, l ∈ ls → refL f ls l) {g v : Int} (h0 : 0 ≤ v) (h1 : v ≤ cntB (inGate g) ls) (x : Int) :
    cntB (inGate x) (ls.map (insL g v)) = if x < g then cntB (inGate x) ls else if x = g then v else if x = g + 1 then cntB (inGate g) ls - v else cntB (inGate (x - 1)) ls := by
  obtain ⟨r1, r2⟩ := cnt_ranks hr h0 h1
  split
  · refine cntB_map (fun o _ => ?_)
    rw [Bool.eq_iff_iff, ins_gate_iff, inGate_iff]
    constructor
    · rintro ⟨a, b⟩; refine ⟨a, ?_⟩; split at b <;> omega
    · rintro ⟨a, b⟩; refine ⟨a, ?_⟩; rw [if_neg (by omega)]; exact b
  · split
    · rename_i hx
      subst hx
      refine Eq.trans (cntB_map (q := inR x 0 v) (fun o ho => ?_)) r1
      rw [Bool.eq_iff_iff, ins_gate_iff, inR_iff]
      constructor
      · rintro ⟨a, b⟩
        have hrk : 1 ≤ o.rank := by
          rcases hr o ho with c | c
          · exact c.2.2.2.2.2.2.1
          · rw [c.1] at a; cases a
        split at b
        · omega
        · rename_i hn
          refine ⟨⟨a, b⟩, by omega, by omega⟩
      · rintro ⟨⟨a, b⟩, c, d⟩; refine ⟨a, ?_⟩; rw [if_neg (by omega)]; exact b
    · split
      · rename_i hx
        subst hx
        refine Eq.trans (cntB_map (q := inR g v (cntB (inGate g) ls)) (fun o ho => ?_)) r2
        rw [Bool.eq_iff_iff, ins_gate_iff, inR_iff]
        constructor
        · rintro ⟨a, b⟩
          have hrk : o.rank ≤ cntB (inGate o.gate) ls := by
            rcases hr o ho with c | c
            · exact c.2.2.2.2.2.2.2.1
            · rw [c.1] at a; cases a
          split at b
          · have e : o.gate = g := by omega
            rw [e] at hrk
            exact ⟨⟨a, e⟩, by omega, hrk⟩
          · omega
        · rintro ⟨⟨a, b⟩, c, d⟩; refine ⟨a, ?_⟩; rw [if_pos (by omega)]; omega
      · refine cntB_map (fun o _ => ?_)
        rw [Bool.eq_iff_iff, ins_gate_iff, inGate_iff]
        constructor
        · rintro ⟨a, b⟩; refine ⟨a, ?_⟩; split at b <;> omega
        · rintro ⟨a, b⟩; refine ⟨a, ?_⟩; rw [if_pos (by omega)]; omega
theorem ins_bef {f : Int} {ls : List Lt} (hr : ∀ l, l ∈ ls → refL f ls l) {G : Nat} {v : Int} (h0 : 0 ≤ v) (h1 : v ≤ cntB (inGate (G : Int)) ls) : ∀ j, befG (ls.map (insL (G : Int) v)) j = if j ≤ G then befG ls j else if j = G + 1 then befG ls G + v else befG ls (j - 1)
  | 0 => by rw [if_pos (by omega)]; rfl
  | j + 1 => by
    rw [befG, ins_bef hr h0 h1 j, ins_gate hr h0 h1]
    rcases Nat.lt_trichotomy j G with h | h | h
    · rw [if_pos (by omega), if_pos (by omega), if_pos (by omega)]; rfl
    · subst h
      rw [if_pos (by omega), if_neg (by omega), if_pos (by omega), if_neg (by omega), if_pos rfl]
    · by_cases e : j = G + 1
      · subst e
        rw [if_neg (show ¬ G + 1 ≤ G by omega), if_pos rfl, if_neg (show ¬ ((G + 1 : Nat) : Int) < G by omega), if_neg (show ¬ ((G + 1 : Nat) : Int) = G by omega), if_pos (show ((G + 1 : Nat) : Int) = G + 1 by omega), if_neg (show ¬ G + 1 + 1 ≤ G by omega), if_neg (show ¬ G + 1 + 1 = G + 1 by omega)]
        show _ = befG ls (G + 1)
        rw [befG]; omega
      · rw [if_neg (show ¬ j ≤ G by omega), if_neg e, if_neg (show ¬ (j : Int) < G by omega), if_neg (show ¬ (j : Int) = G by omega), if_neg (show ¬ (j : Int) = G + 1 by omega), if_neg (show ¬ j + 1 ≤ G by omega), if_neg (show ¬ j + 1 = G + 1 by omega)]
        obtain ⟨i, rfl⟩ : ∃ i, j = i + 1 := ⟨j - 1, by omega⟩
        show befG ls i + _ = befG ls (i + 1)
        rw [befG, show ((i + 1 : Nat) : Int) - 1 = (i : Int) by omega]
theorem ins_spot {f : Int} {ls : List Lt} (hr : ∀ l, l ∈ ls → refL f ls l) {g v : Int} (hg : 0 ≤ g) (h0 : 0 ≤ v) (h1 : v ≤ cntB (inGate g) ls) {l : Lt} (k1 : l.kind = 1) (hl : 0 ≤ l.gate) : spot (ls.map (insL g v)) (insL g v l) = spot ls l := by
  obtain ⟨G, rfl⟩ := Int.eq_ofNat_of_zero_le hg
  obtain ⟨L, hL⟩ := Int.eq_ofNat_of_zero_le hl
  unfold spot
  rw [ins_bef hr h0 h1]
  by_cases h : (G : Int) < l.gate ∨ l.gate = G ∧ v < l.rank
  · rw [ins_shift ⟨k1, h⟩]
    dsimp only
    rw [hL] at h ⊢
    have e1 : ((L : Int) + 1).toNat = L + 1 := by omega
    rw [e1, Int.toNat_natCast]
    by_cases e : L = G
    · subst e
      rw [if_neg (by omega), if_pos rfl, if_pos rfl]
      congr 1; omega
    · rw [if_neg (by omega), if_neg (by omega), if_neg (by omega)]
      rfl
  · rw [ins_stay (fun q => h q.2)]
    rw [hL] at h ⊢
    rw [Int.toNat_natCast, if_pos (by omega)]
theorem refL_ins {f : Int} {ls : List Lt} {g v : Int} (h0 : 0 ≤ v) (h1 : v ≤ cntB (inGate g) ls) (hr : ∀ l, l ∈ ls → refL f ls l) : ∀ l, l ∈ ls.map (insL g v) → refL (f + 1) (ls.map (insL g v)) l := by
  have h2s : ∀ l : Lt, l.kind = 2 → insL g v l = l := fun l k => ins_stay (fun h => by omega)
  refine refL_map (fun l _ => ins_kind g v l) (fun l hl k1 => ?_) (fun l o hl ho kl ko hgg hrk => ?_) (fun l hl k2 => ?_) (fun l o _ _ kl ko => by rw [h2s l kl, h2s o ko]) (fun l o _ _ kl ko => by rw [h2s l kl, h2s o ko]) hr
  · rcases hr l hl with c | c
    · obtain ⟨_, c1, c2, c3, c4, c5, c6, c7, _⟩ := c
      rw [ins_gate hr h0 h1]
      by_cases h : g < l.gate ∨ l.gate = g ∧ v < l.rank
      · rw [ins_shift ⟨k1, h⟩]
        dsimp only
        refine ⟨c1, c2, c3, by omega, by omega, by split <;> omega, ?_⟩
        by_cases e : l.gate = g
        · rw [if_pos e, if_neg (by omega), if_neg (by omega), if_pos (by omega)]
          rw [e] at c7
          omega
        · rw [if_neg e, if_neg (by omega), if_neg (by omega), if_neg (by omega), show l.gate + 1 - 1 = l.gate by omega]
          exact c7
      · rw [ins_stay (fun q => h q.2)]
        refine ⟨c1, c2, c3, c4, by omega, c6, ?_⟩
        split
        · exact c7
        · rw [if_pos (by omega)]
          omega
    · rw [c.1] at k1; cases k1
  · by_cases hl' : g < l.gate ∨ l.gate = g ∧ v < l.rank <;> by_cases ho' : g < o.gate ∨ o.gate = g ∧ v < o.rank
    · rw [ins_shift ⟨kl, hl'⟩, ins_shift ⟨ko, ho'⟩] at hgg hrk
      dsimp only at hgg hrk
      refine ⟨by omega, ?_⟩
      split at hrk <;> split at hrk <;> omega
    · rw [ins_shift ⟨kl, hl'⟩, ins_stay (fun q => ho' q.2)] at hgg hrk
      dsimp only at hgg hrk
      omega
    · rw [ins_stay (fun q => hl' q.2), ins_shift ⟨ko, ho'⟩] at hgg hrk
      dsimp only at hgg hrk
      omega
    · rw [ins_stay (fun q => hl' q.2), ins_stay (fun q => ho' q.2)] at hgg hrk
      exact ⟨hgg, hrk⟩
  · rcases hr l hl with c | c
    · rw [c.1] at k2; cases k2
    · rw [h2s l k2]
      exact ⟨c.2.1, c.2.2.1, c.2.2.2.1, c.2.2.2.2.1, c.2.2.2.2.2.1⟩
/-- What was inserted is forgotten. -/
theorem forg_ins {f : Int} {ls : List Lt} (hr : ∀ l, l ∈ ls → refL f ls l) {g v : Int} (h0 : 0 ≤ v) (h1 : v ≤ cntB (inGate g) ls) : (ls.map (insL g v)).map (forgL (g + 1) (cntB (inGate (g + 1 - 1)) (ls.map (insL g v)))) = ls := by
  rw [show g + 1 - 1 = g by omega, ins_gate hr h0 h1, if_neg (by omega), if_pos rfl, List.map_map]
  conv => rhs; rw [← List.map_id ls]
  apply List.map_congr_left
  intro l _
  show forgL (g + 1) v (insL g v l) = l
  by_cases h : l.kind = 1 ∧ (g < l.gate ∨ l.gate = g ∧ v < l.rank)
  · rw [ins_shift h]
    unfold forgL
    dsimp only
    rw [if_pos ⟨h.1, by omega⟩]
    apply Lt.ext <;> dsimp only
    · omega
    · by_cases e : l.gate = g
      · rw [if_pos e, if_pos ⟨h.1, by omega⟩]; omega
      · rw [if_neg e, if_neg (by omega)]
  · rw [ins_stay h]
    unfold forgL
    by_cases k : l.kind = 1
    · rw [if_neg (by omega), if_neg (by omega)]
    · rw [if_neg (by omega), if_neg (by omega)]

theorem valid_nil {f : Int} (h : 0 ≤ f ∧ f ≤ 40) : checkE f [] = 0 := by
  obtain ⟨hp, ⟨st, ho⟩, pt, hq⟩ := valid_iff (f := f) (ls := []) |>.1 (fun l hl => by cases hl)
  exact checkE_make rfl h rfl hp ho hq rfl
/-- A code whose letters keep their spots, crossings and kinds is valid if the first is. -/
theorem valid_spots {f f' : Int} {ls : List Lt} {h : Lt → Lt} (hv : checkE f ls = 0) (hf' : 0 ≤ f' ∧ f' ≤ 40) (hk : ∀ l, (h l).kind = l.kind) (hr : ∀ l, l ∈ ls.map h → refL f' (ls.map h) l)
    (hc : ∀ l, l.kind = 2 → (h l).id = l.id ∧ (h l).sign = l.sign ∧ (h l).over = l.over) (hsp : ∀ l, l ∈ ls → l.kind = 1 → spot (ls.map h) (h l) = spot ls l) : checkE f' (ls.map h) = 0 := by
  rcases Nat.eq_zero_or_pos ls.length with e | h0
  · obtain rfl : ls = [] := List.eq_nil_of_length_eq_zero e
    exact valid_nil hf'
  obtain ⟨_, h2, h3, h4, _⟩ := checkE_all hv
  refine valid_sim (s := fun v => v) (t := fun v => v) (rv := false) (fl := false) (mir := false) (sm := false) hv h0 hf' (List.length_map _) (cnt2_map (fun l _ => hk l)) (by rw [closed_map (h := h) (fun l _ => hk l)]; exact h3) hr (fun v hv' => ⟨hv', rfl⟩) (fun st pt st' pt' hp' ho ho' g g' => ?_)
  refine sim_of h4 hp' ho ho' g g' h (List.length_map _) (cntP_map (fun l _ => hk l)) rfl (fun v h => h) (fun v _ => rfl) (fun v _ => by simp) (fun v _ => by simp) (fun v l hl => by rw [List.getElem?_map, hl]; rfl) (fun l _ => hk l) (fun l _ k2 => ?_) (fun l o _ _ kl ko e => by rw [(hc l kl).1, (hc o ko).1]; exact e) (fun l hl k1 => ?_) (fun v l hl k1 => ?_)
  · rw [(hc l k2).2.1, (hc l k2).2.2]; simp
  · rw [if_neg (by simp)]; exact hsp l hl k1
  · rw [downB_map (h := h) (fun l _ => hk l)]; simp
theorem gate_nn {f : Int} {ls : List Lt} (hr : ∀ l, l ∈ ls → refL f ls l) {l : Lt} (hl : l ∈ ls) (k1 : l.kind = 1) : 0 ≤ l.gate := by
  rcases hr l hl with c | c
  · exact c.2.2.2.2.1
  · rw [c.1] at k1; cases k1
theorem valid_forget {f k : Int} {ls : List Lt} (hv : checkE f ls = 0) (h1 : 1 ≤ k) (h2 : k ≤ f) : checkE (f - 1) (ls.map (forgL k (cntB (inGate (k - 1)) ls))) = 0 := by
  have hr := refs_of hv
  obtain ⟨_, hf, _⟩ := checkE_all hv
  exact valid_spots hv (by omega) (fun _ => rfl) (refL_forg h1 h2 hr) (fun l _ => ⟨rfl, rfl, rfl⟩) (fun l hl k1 => forg_spot h1 k1 (gate_nn hr hl k1))
theorem valid_insert {f g v : Int} {ls : List Lt} (hv : checkE f ls = 0) (hf : f ≠ 40) (hg : 0 ≤ g) (h0 : 0 ≤ v) (h1 : v ≤ cntB (inGate g) ls) : checkE (f + 1) (ls.map (insL g v)) = 0 := by
  have hr := refs_of hv
  obtain ⟨_, hff, _⟩ := checkE_all hv
  exact valid_spots hv (by omega) (ins_kind g v) (refL_ins h0 h1 hr) (fun l k2 => by rw [ins_stay (fun q => by omega)]; exact ⟨rfl, rfl, rfl⟩) (fun l hl k1 => ins_spot hr hg h0 h1 k1 (gate_nn hr hl k1))

end Go.Proofs.YtplpccgbciglpaaDoor
