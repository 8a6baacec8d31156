/-
  A code without crossings is valid if and only if its ranks draw its word (pure, for CodePlain).
-/
import Derived.Test.YtbbpockkafbfmaaDoorChord
import Derived.Test.YtbbpockkafbfmaaDoorLwR2
namespace Go.Proofs.YtbbpockkafbfmaaDoor
open Go.RowKit

def plL (xs R : List Int) (i : Nat) : Lt := ⟨1, Lw.gt xs i, Lw.gt R i, 0, 0, false⟩
/-- The letters of a word with ranks. -/
def codeL (xs R : List Int) : List Lt := (List.range xs.length).map (plL xs R)
theorem cntB_range (F : Nat → Lt) (p : Lt → Bool) : ∀ m, cntB p ((List.range m).map F) = Lw.cnt (fun j => p (F j)) m
  | 0 => rfl
  | m + 1 => by
    have ih := cntB_range F p m
    unfold cntB at ih ⊢
    rw [List.range_succ, List.map_append, List.filter_append, List.length_append, Lw.cnt, ← ih]
    simp only [List.map_cons, List.map_nil]
    cases h : p (F m) <;> simp [h]
theorem cnt_all {f : Nat → Bool} : ∀ {m : Nat}, (∀ i, i < m → f i = true) → Lw.cnt f m = m
  | 0, _ => rfl
  | m + 1, H => by
    rw [Lw.cnt, cnt_all (fun i hi => H i (by omega)), H m (by omega)]
    simp
section
variable {xs R : List Int} {n : Nat}
theorem codeL_len (hl : xs.length = n) : (codeL xs R).length = n := by unfold codeL; rw [List.length_map, List.length_range, hl]
theorem codeL_at (hl : xs.length = n) {i : Nat} (hi : i < n) : (codeL xs R)[i]? = some (plL xs R i) := by
  unfold codeL
  rw [List.getElem?_map, hl, List.getElem?_range hi]
  rfl
theorem codeL_mem (hl : xs.length = n) {l : Lt} (h : l ∈ codeL xs R) : ∃ i, i < n ∧ l = plL xs R i := by
  unfold codeL at h
  obtain ⟨i, hi, rfl⟩ := List.mem_map.1 h
  exact ⟨i, by rw [← hl]; exact List.mem_range.1 hi, rfl⟩
theorem codeL_cnt (hl : xs.length = n) (p : Lt → Bool) : cntB p (codeL xs R) = Lw.cnt (fun j => p (plL xs R j)) n := by
  unfold codeL
  rw [cntB_range, hl]
theorem gt_mem (hl : xs.length = n) {i : Nat} (hi : i < n) : Lw.gt xs i ∈ xs := by
  unfold Lw.gt
  rw [List.getD_eq_getElem?_getD, List.getElem?_eq_getElem (by omega)]
  exact List.getElem_mem _
theorem ref_ok {k : Int} (hl : xs.length = n) (hg : ∀ x, x ∈ xs → 0 ≤ x ∧ x ≤ k) {i : Nat} (hi : i < n) : refL k (codeL xs R) (plL xs R i) ↔ Lw.okR xs R n i := by
  have h1 : cntB (inGate (Lw.gt xs i)) (codeL xs R) = Lw.manyC xs i n := by
    rw [codeL_cnt hl]
    refine Lw.cnt_congr (fun j _ => ?_)
    rw [Bool.eq_iff_iff]
    simp [inGate, plL]
    exact ⟨fun h => of_decide_eq_true h, fun h => decide_eq_true h⟩
  have h2 : cntB (sameP (plL xs R i)) (codeL xs R) = Lw.sameC xs R i n := by
    rw [codeL_cnt hl]
    refine Lw.cnt_congr (fun j _ => ?_)
    rw [Bool.eq_iff_iff]
    simp [sameP, plL]
    exact ⟨fun h => ⟨of_decide_eq_true h.1, of_decide_eq_true h.2⟩, fun h => ⟨decide_eq_true h.1, decide_eq_true h.2⟩⟩
  have h3 := hg _ (gt_mem hl hi)
  unfold refL Lw.okR
  constructor
  · rintro (⟨_, _, _, _, _, _, c1, c2, c3⟩ | c)
    · rw [h2] at c3
      have e : (plL xs R i).gate = Lw.gt xs i := rfl
      rw [e, h1] at c2
      exact ⟨c1, c2, c3⟩
    · have : (1 : Int) = 2 := c.1
      omega
  · rintro ⟨c1, c2, c3⟩
    refine .inl ⟨rfl, rfl, rfl, rfl, h3.1, h3.2, c1, ?_, ?_⟩
    · have e : (plL xs R i).gate = Lw.gt xs i := rfl
      rw [e, h1]; exact c2
    · rw [h2]; exact c3
end

/-! ## The map of such a code -/
theorem down_alt {ls : List Lt} (h : ∀ l, l ∈ ls → l.kind = 1) : ∀ j, j ≤ ls.length → downB ls j = decide (j % 2 = 0)
  | 0, _ => by rw [down_zero]; rfl
  | j + 1, hj => by
    have hl : ls[j]? = some ls[j] := List.getElem?_eq_getElem (by omega)
    rw [downB_succS hl, down_alt h j (by omega), show isPass ls[j] = true by simp [isPass, h _ (List.getElem_mem _)]]
    rcases Nat.mod_two_eq_zero_or_one j with e | e
    · rw [e, show (j + 1) % 2 = 1 by omega]; rfl
    · rw [e, show (j + 1) % 2 = 0 by omega]; rfl
section
variable {D : DM}
def DM.ps (D : DM) (x : Nat) : Nat := D.sp.getD (endM D.n (revM x)) 0
def DM.us (D : DM) (x : Nat) : Bool := D.ab.getD (x / 2) false
theorem chd_of (g : D.good) (hk : ∀ (i : Nat) (l : Lt), D.ls[i]? = some l → l.kind = 1) (hm : D.m = D.n) : Chd D.n D.sig D.ps D.us := by
  have hlet : ∀ v, v < D.n → ∃ l, D.ls[v]? = some l ∧ l.kind = 1 := fun v hv => by
    obtain ⟨l, h⟩ : ∃ l, D.ls[v]? = some l := ⟨_, List.getElem?_eq_getElem (by rw [g.len]; exact hv)⟩
    exact ⟨l, h, hk _ _ h⟩
  have hpl : ∀ v b, v < D.n → D.ps (leaveM D.n v b) = D.sp.getD v 0 := fun v b hv => by unfold DM.ps; rw [vert_leave hv]
  have hul : ∀ v b, v < D.n → D.us (leaveM D.n v b) = (downB D.ls v == b) := fun v b hv => by
    obtain ⟨l, hl, k1⟩ := hlet v hv
    exact side_pass g hl k1 b
  have hn0 := g.ok.n0
  have hev := g.even
  have huu : ∀ c u : Bool, (c == (c == u)) = u := by intro c u; cases c <;> cases u <;> rfl
  refine ⟨by omega, sig_lt g, sig_inj g, fun x hx => ?_, fun x hx => ?_, fun x hx => ?_, fun x hx => by unfold DM.us; rw [rev_half], fun x y hx hy hu hp => ?_, fun q v hq => ?_⟩
  · obtain ⟨v, b, hv, rfl⟩ := leave_of hx
    obtain ⟨l, hl, k1⟩ := hlet v hv
    rw [hpl v b hv, ← hm]
    exact (g.spa v l hl k1).1
  · obtain ⟨v, b, hv, rfl⟩ := leave_of hx
    obtain ⟨l, hl, k1⟩ := hlet v hv
    obtain ⟨a, ha, ka, hs⟩ := g.axp _ (next_ltS (g.spa v l hl k1).1 (downB D.ls v == b))
    rw [sig_pass g hl k1, hpl _ _ (g.lt ha), hpl v b hv, hul v b hv, hs, hm]
  · obtain ⟨v, b, hv, rfl⟩ := leave_of hx
    obtain ⟨l, hl, k1⟩ := hlet v hv
    obtain ⟨a, ha, ka, hs⟩ := g.axp _ (next_ltS (g.spa v l hl k1).1 (downB D.ls v == b))
    rw [sig_pass g hl k1, hul _ _ (g.lt ha), hul v b hv, huu]
  · obtain ⟨v, b, hv, rfl⟩ := leave_of hx
    obtain ⟨v2, b2, hv2, rfl⟩ := leave_of hy
    obtain ⟨l, hl, k1⟩ := hlet v hv
    obtain ⟨l2, hl2, k2⟩ := hlet v2 hv2
    rw [hpl v b hv, hpl v2 b2 hv2] at hp
    rw [hul v b hv, hul v2 b2 hv2] at hu
    have e1 := (g.spa v l hl k1).2
    have e2 := (g.spa v2 l2 hl2 k2).2
    rw [hp, e2] at e1
    subst e1
    have : b = b2 := by revert hu; cases downB D.ls v2 <;> cases b <;> cases b2 <;> simp
    rw [this]
  · obtain ⟨a, ha, ka, hs⟩ := g.axp q (by omega)
    refine ⟨leaveM D.n (D.ax.getD q 0) (downB D.ls (D.ax.getD q 0) == v), leave_lt (g.lt ha) _, ?_, ?_⟩
    · rw [hpl _ _ (g.lt ha), hs]
    · rw [hul _ _ (g.lt ha), huu]
theorem faces_cls (g : D.good) : (D.outer (2 * D.n)).all.length = cls (Orb (fun x => D.sig (revM x)) (2 * D.n)) (2 * D.n) := by
  obtain ⟨Q, hQ, hQl⟩ := outer_reps (D := D) (fun x hx => DM.left_lt g.ok hx) (fun x y hx hy h => DM.left_inj g hx hy h)
  have e : (fun x => D.sig (revM x)) = D.left := by
    funext x
    unfold DM.sig
    rw [rev_rev]
  rw [e, cls_reps (orb_eqv D.left (2 * D.n)) hQ, hQl]
theorem chord_le {n : Nat} {S p : Nat → Nat} {u : Nat → Bool} (h : Chd n S p u) : cls (Orb (fun x => S (revM x)) (2 * n)) (2 * n) ≤ n + 2 := by
  have c1 := cls_swAll_le (T := S) (N := 2 * n) (edgesM (List.range n)) [] (fun q hq => by
    obtain ⟨e, he, rfl⟩ := List.mem_map.1 hq
    have := List.mem_range.1 he
    exact ⟨by show 2 * e < _; omega, by show 2 * e + 1 < _; omega⟩)
  have c2 := h.two
  have hl : (edgesM (List.range n)).length = n := by unfold edgesM; simp
  rw [List.append_nil, hl] at c1
  have heq : ∀ x, x < 2 * n → swAll S (edgesM (List.range n)) x = S (revM x) := by
    intro x hx
    rw [swAll_edges _ _ List.nodup_range, if_pos (List.mem_range.2 (by omega))]
  have c4 : cls (Orb (fun x => S (revM x)) (2 * n)) (2 * n) ≤ cls (Orb (swAll S (edgesM (List.range n))) (2 * n)) (2 * n) := cls_mono (fun x y q => orb_congr heq q)
  have c5 : cls (Orb (swAll S []) (2 * n)) (2 * n) = cls (Orb S (2 * n)) (2 * n) := rfl
  omega
/-- The arcs of the map cross as the positions say. -/
theorem nch_iff (g : D.good) (hk : ∀ (i : Nat) (l : Lt), D.ls[i]? = some l → l.kind = 1) (hm : D.m = D.n) {pos : Nat → Int} (ho : ∀ i j, i < D.n → j < D.n → (D.sp.getD i 0 < D.sp.getD j 0 ↔ pos i < pos j)) :
    NCh D.n D.ps D.us ↔ Lw.NC D.n pos := by
  have hn0 := g.ok.n0
  have p1 : ∀ a, D.ps (2 * a) = D.sp.getD a 0 := fun a => by
    unfold DM.ps endM
    rw [rev_even, if_pos (by omega), show (2 * a + 1) / 2 = a by omega]
  have p2 : ∀ a, a < D.n → D.ps (2 * a + 1) = D.sp.getD (Lw.Rk.nx D.n true a) 0 := fun a ha => by
    unfold DM.ps endM
    rw [rev_odd, if_neg (by omega), show 2 * a / 2 = a by omega, Lw.nx_mod ha]
  have hls : ∀ l, l ∈ D.ls → l.kind = 1 := fun l hl => by
    obtain ⟨i, hi⟩ := List.getElem?_of_mem hl
    exact hk i l hi
  have hu : ∀ a, a < D.n → D.us (2 * a) = decide ((a + 1) % 2 = 0) := fun a ha => by
    unfold DM.us
    rw [show 2 * a / 2 = a by omega, g.abn ha, down_alt hls (a + 1) (by rw [g.len]; omega)]
  have hnx : ∀ a, a < D.n → Lw.Rk.nx D.n true a < D.n := fun a ha => by
    rw [Lw.nx_mod ha]; exact Nat.mod_lt _ hn0
  have hsp : ∀ i j, i < D.n → j < D.n → D.sp.getD i 0 = D.sp.getD j 0 → i = j := fun i j hi hj e => by
    obtain ⟨l1, h1⟩ : ∃ l, D.ls[i]? = some l := ⟨_, List.getElem?_eq_getElem (by rw [g.len]; exact hi)⟩
    obtain ⟨l2, h2⟩ : ∃ l, D.ls[j]? = some l := ⟨_, List.getElem?_eq_getElem (by rw [g.len]; exact hj)⟩
    have e1 := (g.spa i _ h1 (hk _ _ h1)).2
    have e2 := (g.spa j _ h2 (hk _ _ h2)).2
    rw [e, e2] at e1
    exact e1.symm
  have hev : D.n % 2 = 0 := by rw [← hm]; exact g.even
  have hnp : ∀ a, a < D.n → Lw.Rk.nx D.n true a % 2 ≠ a % 2 := fun a ha => by
    unfold Lw.Rk.nx
    rw [if_pos rfl]
    split <;> omega
  have hnn : ∀ a b, a < D.n → b < D.n → Lw.Rk.nx D.n true a = Lw.Rk.nx D.n true b → a = b := fun a b ha hb => by
    unfold Lw.Rk.nx
    rw [if_pos rfl, if_pos rfl]
    split <;> split <;> omega
  have hb : ∀ x a b, x < D.n → a < D.n → b < D.n → (Lw.Rk.Btw (pos x) (pos a) (pos b) ↔ (D.sp.getD a 0 < D.sp.getD x 0 ∧ D.sp.getD x 0 < D.sp.getD b 0 ∨ D.sp.getD b 0 < D.sp.getD x 0 ∧ D.sp.getD x 0 < D.sp.getD a 0)) := fun x a b hx ha hb => by
    unfold Lw.Rk.Btw
    rw [ho a x ha hx, ho x b hx hb, ho b x hb hx, ho x a hx ha]
  constructor
  · intro h i j hi hj hp hne
    rw [hb j i _ hj hi (hnx i hi), hb _ i _ (hnx j hj) hi (hnx i hi)]
    have hus : D.us (2 * i) = D.us (2 * j) := by rw [hu i hi, hu j hj, decide_eq_decide]; omega
    have q1 := h i j hi hj hus
    have q2 := h j i hj hi hus.symm
    unfold loE hiE at q1 q2
    rw [p1, p1, p2 i hi, p2 j hj] at q1 q2
    have d1 : D.sp.getD i 0 ≠ D.sp.getD j 0 := fun e => hne (hsp _ _ hi hj e)
    have d2 : D.sp.getD (Lw.Rk.nx D.n true i) 0 ≠ D.sp.getD j 0 := fun e => by
      have := hsp _ _ (hnx i hi) hj e
      have := hnp i hi
      omega
    have d3 : D.sp.getD i 0 ≠ D.sp.getD (Lw.Rk.nx D.n true j) 0 := fun e => by
      have := hsp _ _ hi (hnx j hj) e
      have := hnp j hj
      omega
    have d4 : D.sp.getD (Lw.Rk.nx D.n true i) 0 ≠ D.sp.getD (Lw.Rk.nx D.n true j) 0 := fun e => hne (hnn _ _ hi hj (hsp _ _ (hnx i hi) (hnx j hj) e))
    have d5 : D.sp.getD i 0 ≠ D.sp.getD (Lw.Rk.nx D.n true i) 0 := fun e => by
      have := hsp _ _ hi (hnx i hi) e
      have := hnp i hi
      omega
    have d6 : D.sp.getD j 0 ≠ D.sp.getD (Lw.Rk.nx D.n true j) 0 := fun e => by
      have := hsp _ _ hj (hnx j hj) e
      have := hnp j hj
      omega
    generalize D.sp.getD i 0 = A at *
    generalize D.sp.getD (Lw.Rk.nx D.n true i) 0 = A' at *
    generalize D.sp.getD j 0 = B at *
    generalize D.sp.getD (Lw.Rk.nx D.n true j) 0 = B' at *
    clear hu hb ho hnx hsp hnp hnn p1 p2 h hus
    omega
  · intro h a b ha hb' hus hc
    rw [hu a ha, hu b hb', decide_eq_decide] at hus
    have hne : a ≠ b := fun e => by subst e; exact Nat.lt_irrefl _ hc.1
    have q := h a b ha hb' (by omega) hne
    rw [hb b a _ hb' ha (hnx a ha), hb _ a _ (hnx b hb') ha (hnx a ha)] at q
    unfold loE hiE at hc
    rw [p1, p1, p2 a ha, p2 b hb'] at hc
    generalize D.sp.getD a 0 = A at *
    generalize D.sp.getD (Lw.Rk.nx D.n true a) 0 = A' at *
    generalize D.sp.getD b 0 = B at *
    generalize D.sp.getD (Lw.Rk.nx D.n true b) 0 = B' at *
    clear hu hb ho hnx hsp hnp hnn p1 p2 h
    omega
end

/-- The theorem of codes without crossings. -/
theorem plain_drawn {k : Int} {xs R : List Int} {n : Nat} (hl : xs.length = n) (hR : R.length = n) (hk : 0 ≤ k ∧ k ≤ 40) (he : n % 2 = 0) (hn : n ≤ 400) (hg : ∀ x, x ∈ xs → 0 ≤ x ∧ x ≤ k) :
    checkE k (codeL xs R) = 0 ↔ Lw.DrawnR xs R n := by
  have hlen : (codeL xs R).length = n := codeL_len hl
  have hkind : ∀ l, l ∈ codeL xs R → l.kind = 1 := fun l h => by obtain ⟨i, _, rfl⟩ := codeL_mem hl h; rfl
  have hK2 : cntK 2 (codeL xs R) = 0 := by
    have h1 := codeL_cnt (R := R) hl (fun l => decide (l.kind = 2))
    rw [cntK_cntB, h1]
    exact Lw.cnt_false (fun i _ => rfl)
  have hP : cntB isPass (codeL xs R) = n := by
    rw [codeL_cnt hl]
    exact cnt_all (fun i _ => rfl)
  have hs : shortB (codeL xs R) = true := by
    unfold shortB
    rw [hlen, hK2]
    simp
    omega
  have hcl : closedB (codeL xs R) = true := by
    unfold closedB
    rw [hlen, hP]
    by_cases h0 : n = 0
    · simp [h0]
    · have hh : (codeL xs R).head?.any isPass = true := by
        rw [List.head?_eq_getElem?, codeL_at hl (by omega : 0 < n)]
        rfl
      rw [hh]
      simp
      omega
  have hpl : ∀ l, l ∈ codeL xs R → plainL k l := fun l h => by
    obtain ⟨i, hi, rfl⟩ := codeL_mem hl h
    have h3 := hg _ (gt_mem hl hi)
    exact .inl ⟨rfl, rfl, rfl, rfl, h3.1, h3.2⟩
  have hsplit : (∀ l, l ∈ codeL xs R → refL k (codeL xs R) l) ↔ Lw.Rks xs R n := by
    rw [Lw.rks_iff]
    constructor
    · exact fun h => ⟨hR, fun i hi => (ref_ok hl hg hi).1 (h _ (List.mem_of_getElem? (codeL_at hl hi)))⟩
    · rintro ⟨_, h⟩ l hm
      obtain ⟨i, hi, rfl⟩ := codeL_mem hl hm
      exact (ref_ok hl hg hi).2 (h i hi)
  rw [Lw.drawnR_iff hn]
  by_cases h0 : n = 0
  · subst h0
    have hnil : codeL xs R = [] := List.eq_nil_of_length_eq_zero hlen
    constructor
    · intro _
      exact ⟨⟨hR, fun i hi => by omega⟩, fun i j hi => by omega⟩
    · intro _
      rw [hnil] at hs hcl hpl ⊢
      exact checkE_make hs hk hcl hpl (st := _) (pt := _) rfl rfl (by unfold flatB; simp [dmOf])
  · have hn0 : 0 < (codeL xs R).length := by omega
    -- what both ways share
    have key : ∀ st pt, ordM (codeL xs R) (numP k (codeL xs R)) (codeL xs R).length (codeL xs R).length = some st → pairM (codeL xs R) (cntK 2 (codeL xs R) / 2) (codeL xs R).length (codeL xs R).length = some pt → Lw.Rks xs R n →
        (flatB (dmOf k (codeL xs R) st pt) = true ↔ Lw.NC n (Lw.posOf xs R)) := by
      intro st pt ho hq hRk
      have g := dmOf_good hs hk hcl hpl hn0 ho hq
      have hm : (dmOf k (codeL xs R) st pt).m = (dmOf k (codeL xs R) st pt).n := by
        have h1 := g.npass
        have h2 : cntB isPass (dmOf k (codeL xs R) st pt).ls = n := hP
        have h3 : (dmOf k (codeL xs R) st pt).n = n := hlen
        omega
      have hki : ∀ (i : Nat) (l : Lt), (dmOf k (codeL xs R) st pt).ls[i]? = some l → l.kind = 1 := fun i l h => hkind l (List.mem_of_getElem? h)
      have hch := chd_of g hki hm
      have hn2 : (dmOf k (codeL xs R) st pt).n = n := hlen
      have hord : ∀ i j, i < (dmOf k (codeL xs R) st pt).n → j < (dmOf k (codeL xs R) st pt).n → ((dmOf k (codeL xs R) st pt).sp.getD i 0 < (dmOf k (codeL xs R) st pt).sp.getD j 0 ↔ Lw.posOf xs R i < Lw.posOf xs R j) := by
        intro i j hi hj
        rw [hn2] at hi hj
        have h1 := g.lft i j (plL xs R i) (plL xs R j) (codeL_at hl hi) (codeL_at hl hj) rfl rfl
        rw [← h1]
        have b1 := hRk.bds hi
        have b2 := hRk.bds hj
        show (Lw.gt xs i < Lw.gt xs j ∨ Lw.gt xs i = Lw.gt xs j ∧ Lw.gt R i < Lw.gt R j) ↔ _
        unfold Lw.posOf
        omega
      have hiff := nch_iff g hki hm hord
      rw [hn2] at hiff
      rw [← hiff]
      have hfc := faces_cls g
      have hle := chord_le hch
      have hfl : flatB (dmOf k (codeL xs R) st pt) = true ↔ (((dmOf k (codeL xs R) st pt).outer (2 * (dmOf k (codeL xs R) st pt).n)).all.length : Int) = n + 2 := by
        unfold flatB
        have h3 : cntK 2 (dmOf k (codeL xs R) st pt).ls = 0 := hK2
        rw [h3, hm, hn2]
        simp
        omega
      rw [hfl, hfc]
      have hnn := hn2
      constructor
      · intro h
        apply Classical.byContradiction
        intro hno
        rw [← hnn] at hno
        have := chord_cross hch hno
        omega
      · intro h
        rw [← hnn] at h
        have := chord_fine hch h
        omega
    constructor
    · intro h
      obtain ⟨_, _, _, _, st, pt, ho, hq, hfl⟩ := checkE_all h
      have hRk := hsplit.1 (valid_iff.2 ⟨hpl, ⟨st, ho⟩, ⟨pt, hq⟩⟩)
      exact ⟨hRk, (key st pt ho hq hRk).1 hfl⟩
    · rintro ⟨hRk, hNC⟩
      obtain ⟨_, ⟨st, ho⟩, ⟨pt, hq⟩⟩ := valid_iff.1 (hsplit.2 hRk)
      exact checkE_make hs hk hcl hpl ho hq ((key st pt ho hq hRk).2 hNC)

end Go.Proofs.YtbbpockkafbfmaaDoor
