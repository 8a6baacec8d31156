/-
  How many places, fingers and outer faces there are on each side (pure).
-/
import Derived.Test.YtbbpockkafbfmaaDoorFcs
namespace Go.Proofs.YtbbpockkafbfmaaDoor
open Go.RowKit

/-! ## Sums -/
def sumN {α : Type} (F : α → Nat) : List α → Nat
  | [] => 0
  | a :: r => F a + sumN F r
theorem sumN_app {α : Type} (F : α → Nat) : ∀ (l k : List α), sumN F (l ++ k) = sumN F l + sumN F k
  | [], k => by simp [sumN]
  | a :: l, k => by rw [List.cons_append, sumN, sumN, sumN_app F l k]; omega
theorem sumN_congr {α : Type} {F G : α → Nat} : ∀ {l : List α}, (∀ x, x ∈ l → F x = G x) → sumN F l = sumN G l
  | [], _ => rfl
  | a :: l, h => by rw [sumN, sumN, h a (List.mem_cons_self ..), sumN_congr (fun x hx => h x (List.mem_cons_of_mem _ hx))]
theorem sumN_flat {α : Type} (F : α → Nat) : ∀ (P : List (List α)), sumN F P.flatten = sumN (sumN F) P
  | [] => rfl
  | a :: l => by rw [List.flatten_cons, sumN_app, sumN_flat F l]; rfl
theorem sumN_map {α β : Type} (F : β → Nat) (h : α → β) : ∀ (l : List α), sumN F (l.map h) = sumN (fun x => F (h x)) l
  | [] => rfl
  | a :: l => by rw [List.map_cons, sumN, sumN, sumN_map F h l]
theorem sumN_filter {α : Type} (F : α → Nat) (p : α → Bool) : ∀ (l : List α), sumN F (l.filter p) = sumN (fun x => if p x then F x else 0) l
  | [] => rfl
  | a :: l => by
    rw [List.filter_cons, sumN, ← sumN_filter F p l]
    split <;> simp [sumN]
theorem sumN_zero {α : Type} {F : α → Nat} {l : List α} (h : ∀ x, x ∈ l → F x = 0) : sumN F l = 0 := by
  rw [sumN_congr (G := fun _ => 0) h]
  induction l with
  | nil => rfl
  | cons a r ih => rw [sumN, ih (fun x hx => h x (List.mem_cons_of_mem _ hx))]
theorem sumN_erase (F : Nat → Nat) : ∀ {k : List Nat} {a : Nat}, a ∈ k → sumN F k = F a + sumN F (k.erase a)
  | b :: k, a, h => by
    by_cases e : b = a
    · subst e; rw [List.erase_cons_head]; rfl
    · rw [List.erase_cons_tail (by simpa using e), sumN, sumN]
      have := sumN_erase F (k := k) (a := a) (by rcases List.mem_cons.1 h with q | q; exact absurd q.symm e; exact q)
      omega
theorem sumN_same (F : Nat → Nat) : ∀ {l k : List Nat}, l.Nodup → k.Nodup → (∀ x, x ∈ l ↔ x ∈ k) → sumN F l = sumN F k
  | [], k, _, _, h => by
    cases k with
    | nil => rfl
    | cons b k => exact absurd ((h b).2 (List.mem_cons_self ..)) (by simp)
  | a :: l, k, hl, hk, h => by
    obtain ⟨h1, h2⟩ := List.nodup_cons.1 hl
    have ha := (h a).1 (List.mem_cons_self ..)
    rw [sumN, sumN_erase F ha, sumN_same F h2 (hk.erase a) (fun x => ?_)]
    rw [hk.mem_erase_iff]
    constructor
    · intro hx
      exact ⟨fun e => h1 (by rw [← e]; exact hx), (h x).1 (List.mem_cons_of_mem _ hx)⟩
    · rintro ⟨hx, hxk⟩
      rcases List.mem_cons.1 ((h x).2 hxk) with q | q
      · exact absurd q hx
      · exact q
theorem len_flatMap {α β : Type} (F : α → List β) : ∀ (l : List α), (l.flatMap F).length = sumN (fun x => (F x).length) l
  | [] => rfl
  | a :: l => by rw [List.flatMap_cons, List.length_append, len_flatMap F l]; rfl
theorem sumN_range_succ (F : Nat → Nat) (n : Nat) : sumN F (List.range (n + 1)) = sumN F (List.range n) + F n := by
  rw [List.range_succ, sumN_app]; rfl
theorem sumN_range_head (F : Nat → Nat) : ∀ n, sumN F (List.range (n + 1)) = F 0 + sumN (fun i => F (i + 1)) (List.range n)
  | 0 => rfl
  | n + 1 => by rw [sumN_range_succ, sumN_range_head F n, sumN_range_succ]; omega

section
variable {D : DM} (g : D.good) {P : List (List Nat)} (hP : Fcs D P)
include g
/-- The gaps of a side, dart by dart and spot by spot. -/
theorem gaps_darts (ω : List Nat → Nat) (h0 : ω [] = 0) (u : Bool) {F : List Nat} (hn : F.Nodup) (hm : ∀ x, x ∈ F ↔ x < 2 * D.n) : sumN (fun d => if D.ab.getD (d / 2) false = u then ω (D.gaps u d) else 0) F = sumN (fun s => ω (gapsM D.m s u)) (List.range D.m) := by
  have e1 : sumN (fun d => if D.ab.getD (d / 2) false = u then ω (D.gaps u d) else 0) F = sumN (fun d => ω (gapsM D.m (D.sp.getD (endM D.n d) 0) u)) (F.filter fun d => decide (D.ab.getD (d / 2) false = u) && !D.isX (endM D.n d)) := by
    rw [sumN_filter]
    refine sumN_congr (fun d hd => ?_)
    have hd' := (hm d).1 hd
    obtain ⟨he, l, hl, hk⟩ := DM.at_end g hd'
    by_cases hu : D.ab.getD (d / 2) false = u
    · rw [if_pos hu, decide_eq_true hu, Bool.true_and]
      rcases hk with hk | hk
      · have hx : D.isX (endM D.n d) = false := by
          rw [Bool.eq_false_iff]; intro q
          obtain ⟨a, ha, ka⟩ := isX_iff.1 q
          rw [hl] at ha; injection ha with ha; rw [ha, ka] at hk; cases hk
        rw [hx]
        unfold DM.gaps
        rw [hl]
        simp [hk]
      · rw [isX_iff.2 ⟨l, hl, hk⟩]
        unfold DM.gaps
        rw [hl]
        simp [hk, h0]
    · rw [if_neg hu, decide_eq_false hu]; simp
  rw [e1, ← sumN_map (fun s => ω (gapsM D.m s u)) (fun d => D.sp.getD (endM D.n d) 0)]
  have hpass : ∀ d, d < 2 * D.n → D.isX (endM D.n d) = false → ∃ l, D.ls[endM D.n d]? = some l ∧ l.kind = 1 := fun d hd hx => by
    obtain ⟨he, l, hl, hk⟩ := DM.at_end g hd
    rcases hk with hk | hk
    · exact ⟨l, hl, hk⟩
    · rw [isX_iff.2 ⟨l, hl, hk⟩] at hx; cases hx
  have hside : ∀ v b l, D.ls[v]? = some l → l.kind = 1 → D.ab.getD (arrM D.n v b / 2) false = (downB D.ls v == !b) := fun v b l hl hk => by
    have := side_pass g hl hk (!b)
    rw [← rev_half, rev_leave (g.lt hl), Bool.not_not] at this
    exact this
  refine sumN_same _ (map_nodup (hn.filter _) (fun a b ha hb e => ?_)) List.nodup_range (fun s => ?_)
  · obtain ⟨ha1, ha2⟩ := List.mem_filter.1 ha
    obtain ⟨hb1, hb2⟩ := List.mem_filter.1 hb
    rw [Bool.and_eq_true, decide_eq_true_iff, Bool.not_eq_true'] at ha2 hb2
    have ha3 := (hm a).1 ha1
    have hb3 := (hm b).1 hb1
    obtain ⟨la, hla, ka⟩ := hpass a ha3 ha2.2
    obtain ⟨lb, hlb, kb⟩ := hpass b hb3 hb2.2
    have hee : endM D.n a = endM D.n b := by rw [← (g.spa _ la hla ka).2, ← (g.spa _ lb hlb kb).2, e]
    have h1 := ha2.1
    have h2 := hb2.1
    rw [← arr_end ha3] at h1 ⊢
    rw [← arr_end hb3] at h2 ⊢
    rw [hside _ _ la hla ka] at h1
    rw [hside _ _ lb hlb kb, ← hee] at h2
    rw [← hee]
    congr 1
    revert h1 h2
    generalize downB D.ls (endM D.n a) = c
    generalize decide (a % 2 = 1) = x
    generalize decide (b % 2 = 1) = y
    cases c <;> cases x <;> cases y <;> cases u <;> simp
  · rw [List.mem_range]
    constructor
    · intro h
      obtain ⟨d, hd, rfl⟩ := List.mem_map.1 h
      obtain ⟨h1, h2⟩ := List.mem_filter.1 hd
      rw [Bool.and_eq_true, Bool.not_eq_true'] at h2
      obtain ⟨l, hl, hk⟩ := hpass d ((hm d).1 h1) h2.2
      exact (g.spa _ l hl hk).1
    · intro h
      obtain ⟨l, hl, hk, hs⟩ := g.axp s h
      have hv := g.lt hl
      obtain ⟨e2, _⟩ := end_arr hv (!(downB D.ls (D.ax.getD s 0) == u))
      refine List.mem_map.2 ⟨arrM D.n (D.ax.getD s 0) (!(downB D.ls (D.ax.getD s 0) == u)), List.mem_filter.2 ⟨(hm _).2 (arr_lt hv _), ?_⟩, by rw [e2]; exact hs⟩
      rw [Bool.and_eq_true, decide_eq_true_iff, hside _ _ l hl hk, e2, Bool.not_eq_true']
      refine ⟨by cases downB D.ls (D.ax.getD s 0) <;> cases u <;> rfl, ?_⟩
      rw [Bool.eq_false_iff]; intro q
      obtain ⟨a, ha, ka⟩ := isX_iff.1 q
      rw [hl] at ha; injection ha with ha; rw [ha, ka] at hk; cases hk
include hP
theorem gaps_faces (ω : List Nat → Nat) (h0 : ω [] = 0) (u : Bool) : sumN (fun p => if D.ab.getD (p.headD 0 / 2) false = u then sumN (fun d => ω (D.gaps u d)) p else 0) P = sumN (fun s => ω (gapsM D.m s u)) (List.range D.m) := by
  rw [← gaps_darts g ω h0 u hP.nodup hP.mem, sumN_flat]
  refine sumN_congr (fun p hp => ?_)
  obtain ⟨h, r, e, _, hs⟩ := hP.pc p hp
  have hh : p.headD 0 = h := by rw [e]; rfl
  rw [hh]
  by_cases hu : D.ab.getD (h / 2) false = u
  · rw [if_pos hu]
    exact sumN_congr (fun d hd => by rw [if_pos (by rw [hs d hd]; exact hu)])
  · rw [if_neg hu]
    exact (sumN_zero (fun d hd => by rw [if_neg (by rw [hs d hd]; exact hu)])).symm
end
/-- The spots' gaps are all gaps. -/
theorem gaps_spots (c : Nat → Nat) (m : Nat) (hm : 0 < m) (u : Bool) : sumN (fun s => sumN c (gapsM m s u)) (List.range m) = sumN c (List.range (m + 1)) := by
  obtain ⟨k, rfl⟩ : ∃ k, m = k + 1 := ⟨m - 1, by omega⟩
  cases u with
  | true =>
    rw [sumN_range_succ, sumN_range_head c (k + 1), sumN_range_succ]
    have e1 : sumN (fun s => sumN c (gapsM (k + 1) s true)) (List.range k) = sumN (fun i => c (i + 1)) (List.range k) := sumN_congr (fun s hs => by
      have := List.mem_range.1 hs
      unfold gapsM
      rw [if_neg (by omega), if_pos rfl]; simp [sumN])
    have e2 : sumN c (gapsM (k + 1) k true) = c (k + 1) + c 0 := by
      unfold gapsM
      rw [if_pos ⟨rfl, rfl⟩]; simp [sumN]
    rw [e1, e2]; omega
  | false =>
    rw [sumN_range_head, sumN_range_succ c (k + 1), sumN_range_head c k]
    have e1 : sumN (fun i => sumN c (gapsM (k + 1) (i + 1) false)) (List.range k) = sumN (fun i => c (i + 1)) (List.range k) := sumN_congr (fun s hs => by
      unfold gapsM
      rw [if_neg (by simp), if_neg (by simp), if_neg (by omega)]; simp [sumN])
    have e2 : sumN c (gapsM (k + 1) 0 false) = c 0 + c (k + 1) := by
      unfold gapsM
      rw [if_neg (by simp), if_neg (by simp), if_pos rfl]; simp [sumN]
    rw [e1, e2]; omega
theorem outer_spots (m : Nat) (hm : 0 < m) (u : Bool) : sumN (fun s => if (gapsM m s u).length = 2 then 1 else 0) (List.range m) = 1 := by
  obtain ⟨k, rfl⟩ : ∃ k, m = k + 1 := ⟨m - 1, by omega⟩
  cases u with
  | true =>
    have e1 : (gapsM (k + 1) k true).length = 2 := by unfold gapsM; rw [if_pos ⟨rfl, rfl⟩]; rfl
    rw [sumN_range_succ, if_pos e1, sumN_zero (fun s hs => ?_)]
    have := List.mem_range.1 hs
    have e2 : (gapsM (k + 1) s true).length = 1 := by unfold gapsM; rw [if_neg (by omega), if_pos rfl]; rfl
    rw [e2]; rfl
  | false =>
    have e1 : (gapsM (k + 1) 0 false).length = 2 := by unfold gapsM; rw [if_neg (by simp), if_neg (by simp), if_pos rfl]; rfl
    rw [sumN_range_head, if_pos e1, sumN_zero (fun s hs => ?_)]
    have e2 : (gapsM (k + 1) (s + 1) false).length = 1 := by unfold gapsM; rw [if_neg (by simp), if_neg (by simp), if_neg (by omega)]; rfl
    rw [e2]; rfl

/-! ## Places and fingers -/
theorem gapF_len (f : Int) (ls : List Lt) (ax : List Nat) (m s : Nat) : (gapFingers f ls ax m s).length = (gapTo f ls ax m s - (gapFrom ls ax s).1).toNat := upFrom_len _ _
/-- From the left to the right. -/
theorem fingers_sum {D : DM} (g : D.good) (hm : 0 < D.m) {f : Int} (hp : ∀ l, l ∈ D.ls → l.kind = 1 → 0 ≤ l.gate ∧ l.gate ≤ f) : sumN (fun s => (gapFingers f D.ls D.ax D.m s).length) (List.range (D.m + 1)) = f.toNat := by
  have key : ∀ k, k ≤ D.m → sumN (fun s => (gapFingers f D.ls D.ax D.m s).length) (List.range k) = (gapFrom D.ls D.ax k).1.toNat ∧ 0 ≤ (gapFrom D.ls D.ax k).1 ∧ (gapFrom D.ls D.ax k).1 ≤ gapTo f D.ls D.ax D.m k := by
    intro k
    induction k with
    | zero =>
      intro _
      obtain ⟨l, hl, hk, _⟩ := g.axp 0 hm
      have h1 := (hp l (List.mem_of_getElem? hl) hk).1
      refine ⟨rfl, by simp [gapFrom], ?_⟩
      unfold gapTo
      rw [if_pos hm, hl]
      simp [gapFrom]; exact h1
    | succ k ih =>
      intro hk1
      obtain ⟨i1, i2, i3⟩ := ih (by omega)
      obtain ⟨l, hl, hk, hs⟩ := g.axp k (by omega)
      have hfr : (gapFrom D.ls D.ax (k + 1)).1 = l.gate := by
        unfold gapFrom; rw [if_neg (by omega), show k + 1 - 1 = k by omega, hl]
      have hto : gapTo f D.ls D.ax D.m k = l.gate := by
        unfold gapTo; rw [if_pos (by omega), hl]
      have hb := hp l (List.mem_of_getElem? hl) hk
      refine ⟨?_, by rw [hfr]; exact hb.1, ?_⟩
      · rw [sumN_range_succ, i1, gapF_len, hto, hfr]
        rw [hto] at i3
        omega
      · rw [hfr]
        unfold gapTo
        by_cases h2 : k + 1 < D.m
        · obtain ⟨l2, hl2, hk2, hs2⟩ := g.axp (k + 1) h2
          rw [if_pos h2, hl2]
          have := (g.lft _ _ l l2 hl hl2 hk hk2).2 (by rw [hs, hs2]; omega)
          show l.gate ≤ l2.gate
          omega
        · rw [if_neg h2]; exact hb.2
  obtain ⟨k1, k2, k3⟩ := key D.m (Nat.le_refl _)
  rw [sumN_range_succ, k1, gapF_len]
  have : gapTo f D.ls D.ax D.m D.m = f := by unfold gapTo; rw [if_neg (by omega)]
  rw [this] at k3 ⊢
  omega
theorem meetP_len (u : Bool) (ps : List (Int × Int)) : (meetP u ps).length = ps.length := by unfold meetP; split <;> simp
theorem meetZ_len (u : Bool) (ps : List Int) : (meetZ u ps).length = ps.length := by unfold meetZ; split <;> simp
theorem fps_len (D : DM) (f : Int) (u : Bool) (gs : List Nat) : (D.fps f u gs).length = sumN (fun s => 1 + (gapFingers f D.ls D.ax D.m s).length) gs := by
  unfold DM.fps
  rw [len_flatMap]
  exact sumN_congr (fun s _ => by rw [meetP_len]; unfold gapPlaces; rw [List.length_cons, List.length_map]; omega)
theorem fzs_len (D : DM) (f : Int) (u : Bool) (gs : List Nat) : (D.fzs f u gs).length = sumN (fun s => (gapFingers f D.ls D.ax D.m s).length) gs := by
  unfold DM.fzs
  rw [len_flatMap]
  exact sumN_congr (fun s _ => by rw [meetZ_len])
theorem sumN_add {α : Type} (F G : α → Nat) : ∀ l : List α, sumN (fun x => F x + G x) l = sumN F l + sumN G l
  | [] => rfl
  | a :: l => by rw [sumN, sumN, sumN, sumN_add F G l]; omega
theorem sumN_one : ∀ n : Nat, sumN (fun _ => 1) (List.range n) = n
  | 0 => rfl
  | n + 1 => by rw [sumN_range_succ, sumN_one n]
/-- The numbers of a side. -/
theorem side_numbers {D : DM} (g : D.good) {P : List (List Nat)} (hP : Fcs D P) (hm : 0 < D.m) {f : Int} (hp : ∀ l, l ∈ D.ls → l.kind = 1 → 0 ≤ l.gate ∧ l.gate ≤ f) (u : Bool) :
    sumN (fun M => if M.above = u then M.places.length else 0) (P.map (D.face f)) = D.m + 1 + f.toNat ∧ sumN (fun M => if M.above = u then M.fingers.length else 0) (P.map (D.face f)) = f.toNat ∧
    sumN (fun M => if M.above = u ∧ M.outer = true then 1 else 0) (P.map (D.face f)) = 1 := by
  have hF := fingers_sum g hm hp
  refine ⟨?_, ?_, ?_⟩
  · rw [sumN_map]
    have h1 := gaps_faces g hP (fun gs => (D.fps f u gs).length) rfl u
    have h2 : sumN (fun s => (D.fps f u (gapsM D.m s u)).length) (List.range D.m) = D.m + 1 + f.toNat := by
      rw [sumN_congr (fun s _ => fps_len D f u _), gaps_spots _ _ hm, sumN_add, sumN_one, hF]
    rw [← h2, ← h1]
    refine sumN_congr (fun p _ => ?_)
    show (if D.ab.getD (p.headD 0 / 2) false = u then (p.flatMap fun d => D.fps f (D.ab.getD (p.headD 0 / 2) false) (D.gaps (D.ab.getD (p.headD 0 / 2) false) d)).length else 0) = _
    by_cases hu : D.ab.getD (p.headD 0 / 2) false = u
    · rw [if_pos hu, if_pos hu, hu, len_flatMap]
    · rw [if_neg hu, if_neg hu]
  · rw [sumN_map]
    have h1 := gaps_faces g hP (fun gs => (D.fzs f u gs).length) rfl u
    have h2 : sumN (fun s => (D.fzs f u (gapsM D.m s u)).length) (List.range D.m) = f.toNat := by
      rw [sumN_congr (fun s _ => fzs_len D f u _), gaps_spots _ _ hm, hF]
    rw [← h2, ← h1]
    refine sumN_congr (fun p _ => ?_)
    show (if D.ab.getD (p.headD 0 / 2) false = u then (p.flatMap fun d => D.fzs f (D.ab.getD (p.headD 0 / 2) false) (D.gaps (D.ab.getD (p.headD 0 / 2) false) d)).length else 0) = _
    by_cases hu : D.ab.getD (p.headD 0 / 2) false = u
    · rw [if_pos hu, if_pos hu, hu, len_flatMap]
    · rw [if_neg hu, if_neg hu]
  · rw [sumN_map]
    have h1 := gaps_faces g hP (fun gs => if gs.length = 2 then 1 else 0) rfl u
    rw [outer_spots _ hm] at h1
    refine Eq.trans ?_ h1
    -- no face has two
    have hle : ∀ {l : List (List Nat)} {F : List Nat → Nat}, sumN F l ≤ 1 → ∀ p, p ∈ l → F p ≤ 1 := by
      intro l F
      induction l with
      | nil => intro _ p hp; cases hp
      | cons a r ih =>
        intro h p hp
        rw [sumN] at h
        rcases List.mem_cons.1 hp with rfl | hp
        · omega
        · exact ih (by omega) p hp
    have h2 := hle (Nat.le_of_eq h1)
    refine sumN_congr (fun p hp => ?_)
    have h3 := h2 p hp
    show (if D.ab.getD (p.headD 0 / 2) false = u ∧ (p.any fun d => decide ((D.gaps (D.ab.getD (p.headD 0 / 2) false) d).length = 2)) = true then 1 else 0) = _
    by_cases hu : D.ab.getD (p.headD 0 / 2) false = u
    · rw [if_pos hu] at h3 ⊢
      rw [hu]
      have hcnt : ∀ q : List Nat, ((q.any fun d => decide ((D.gaps u d).length = 2)) = true ↔ 1 ≤ sumN (fun d => if (D.gaps u d).length = 2 then 1 else 0) q) := by
        intro q
        induction q with
        | nil => simp [sumN]
        | cons a r ih =>
          rw [List.any_cons, Bool.or_eq_true, ih, sumN, decide_eq_true_iff]
          split <;> omega
      by_cases ha : (p.any fun d => decide ((D.gaps u d).length = 2)) = true
      · rw [if_pos ⟨rfl, ha⟩]
        have := (hcnt p).1 ha
        omega
      · rw [if_neg (fun q => ha q.2)]
        have h5 : ¬ 1 ≤ sumN (fun d => if (D.gaps u d).length = 2 then 1 else 0) p := fun q => ha ((hcnt p).2 q)
        omega
    · rw [if_neg (fun q => hu q.1), if_neg hu]

end Go.Proofs.YtbbpockkafbfmaaDoor
