/-
  The faces of a valid code, counted (pure).
-/
import Derived.Test.YtbbpockkafbfmaaDoorEulS
import Derived.Test.YtbbpockkafbfmaaDoorPureC
namespace Go.Proofs.YtbbpockkafbfmaaDoor
open Go.RowKit

theorem kinds_len : ∀ {ls : List Lt}, (∀ l, l ∈ ls → l.kind = 1 ∨ l.kind = 2) → ls.length = (ls.filter isPass).length + (ls.filter fun l => decide (l.kind = 2)).length
  | [], _ => rfl
  | a :: ls, h => by
    have ih := kinds_len (ls := ls) (fun l hl => h l (List.mem_cons_of_mem _ hl))
    have ha := h a (List.mem_cons_self ..)
    rw [List.filter_cons, List.filter_cons, List.length_cons]
    by_cases h1 : a.kind = 1
    · have h2 : ¬ a.kind = 2 := by omega
      rw [if_pos (show isPass a = true by unfold isPass; exact decide_eq_true h1), if_neg (by simpa using h2), List.length_cons]
      omega
    · have h2 : a.kind = 2 := by omega
      rw [if_neg (show ¬ isPass a = true by unfold isPass; simpa using h1), if_pos (decide_eq_true h2), List.length_cons]
      omega

/-- What the faces of a valid code are. -/
theorem valid_fcs {f : Int} {ls : List Lt} (hv : checkE f ls = 0) (hn : 0 < ls.length) {st : OrdS} {pt : PairS} (ho : ordM ls (numP f ls) ls.length ls.length = some st) (hq : pairM ls (cntK 2 ls / 2) ls.length ls.length = some pt) :
    (dmOf f ls st pt).good ∧ (∃ P, Fcs (dmOf f ls st pt) P) ∧ 0 < (dmOf f ls st pt).m ∧ ((dmOf f ls st pt).m : Int) = cntB isPass ls ∧
    (((dmOf f ls st pt).outer (2 * (dmOf f ls st pt).n)).all.length : Int) = cntB isPass ls + cntK 2 ls / 2 + 2 ∧ (∀ l, l ∈ (dmOf f ls st pt).ls → l.kind = 1 → 0 ≤ l.gate ∧ l.gate ≤ f) := by
  obtain ⟨q1, q2, q3, q4, st', pt', q5, q6, q7⟩ := checkE_all hv
  rw [ho] at q5
  rw [hq] at q6
  injection q5 with q5
  injection q6 with q6
  subst q5 q6
  have g := dmOf_good q1 q2 q3 q4 hn ho hq
  have hnp := numP_pass (f := f) q4
  have hfl : (((dmOf f ls st pt).outer (2 * (dmOf f ls st pt).n)).all.length : Int) = cntB isPass ls + cntK 2 ls / 2 + 2 := by
    unfold flatB at q7
    rw [Bool.or_eq_true, decide_eq_true_iff, decide_eq_true_iff] at q7
    rcases q7 with c | c
    · have : (dmOf f ls st pt).n = ls.length := rfl
      omega
    · rw [c]
      show ((numP f ls : Nat) : Int) + cntK 2 ls / 2 + 2 = _
      rw [hnp]
  have h0 : ∃ l, (dmOf f ls st pt).ls[0]? = some l ∧ l.kind = 1 := by
    show ∃ l, ls[0]? = some l ∧ l.kind = 1
    cases ls with
    | nil => simp at hn
    | cons a r =>
      refine ⟨a, rfl, ?_⟩
      unfold closedB at q3
      rw [Bool.or_eq_true, Bool.and_eq_true] at q3
      rcases q3 with c | c
      · simp at c
      · have := c.1
        simp [isPass] at this
        exact this
  have hk := kinds_len (ls := ls) (fun l hl => by
    obtain ⟨i, hi⟩ := List.getElem?_of_mem hl
    exact g.kind i l hi)
  have e1 : ((List.range (dmOf f ls st pt).n).filter (dmOf f ls st pt).isX).length = (ls.filter fun l => decide (l.kind = 2)).length := cnt_range ls (fun l => decide (l.kind = 2))
  have e2 := firsts_len g
  have e3 : ((dmOf f ls st pt).m : Int) = ((ls.filter isPass).length : Nat) := hnp
  have e4 : cntK 2 ls = ((ls.filter fun l => decide (l.kind = 2)).length : Nat) := rfl
  have e5 : cntB isPass ls = ((ls.filter isPass).length : Nat) := rfl
  have e6 : (dmOf f ls st pt).n = ls.length := rfl
  have hN : (dmOf f ls st pt).n = (dmOf f ls st pt).m + 2 * (dmOf f ls st pt).firsts.length := by omega
  have hF : ((dmOf f ls st pt).outer (2 * (dmOf f ls st pt).n)).all.length = (dmOf f ls st pt).m + (dmOf f ls st pt).firsts.length + 2 := by omega
  refine ⟨g, fcs_all g (fun v l hl hk2 => same_side g h0 hF hN hl hk2), ?_, hnp, hfl, fun l hl hk1 => ?_⟩
  · obtain ⟨l, hl, hk1⟩ := h0
    have := (g.spa 0 l hl hk1).1
    omega
  · rcases q4 l hl with c | c
    · exact ⟨c.2.2.2.2.1, c.2.2.2.2.2⟩
    · rw [c.1] at hk1; cases hk1

/-! ## What the law sums -/
def wgt (M : FaceM) : Int := if M.above then 1 else 1000
def sumI (F : FaceM → Int) : List FaceM → Int
  | [] => 0
  | a :: r => F a + sumI F r
theorem sumI_app (F : FaceM → Int) : ∀ (l k : List FaceM), sumI F (l ++ k) = sumI F l + sumI F k
  | [], k => by simp [sumI]
  | a :: l, k => by rw [List.cons_append, sumI, sumI, sumI_app F l k]; omega
theorem sumI_two (F : FaceM → Nat) : ∀ (l : List FaceM), sumI (fun M => wgt M * F M) l = (sumN (fun M => if M.above = true then F M else 0) l : Nat) + 1000 * (sumN (fun M => if M.above = false then F M else 0) l : Nat)
  | [] => rfl
  | a :: l => by
    rw [sumI, sumI_two F l, sumN, sumN]
    unfold wgt
    cases a.above <;> simp <;> omega
theorem sumI_nonneg {F : FaceM → Int} (h : ∀ M, 0 ≤ F M) : ∀ (l : List FaceM), 0 ≤ sumI F l
  | [] => Int.le_refl _
  | a :: l => by have h1 := sumI_nonneg h l; have h2 := h a; rw [sumI]; omega
theorem sumI_take {F : FaceM → Int} (h : ∀ M, 0 ≤ F M) (l : List FaceM) (j : Nat) : 0 ≤ sumI F (l.take j) ∧ sumI F (l.take j) ≤ sumI F l := by
  have h1 := sumI_app F (l.take j) (l.drop j)
  rw [List.take_append_drop] at h1
  have h2 := sumI_nonneg h (l.drop j)
  have h3 := sumI_nonneg h (l.take j)
  omega
theorem sumI_succ (F : FaceM → Int) {l : List FaceM} {j : Nat} {M : FaceM} (h : l[j]? = some M) : sumI F (l.take (j + 1)) = sumI F (l.take j) + F M := by
  rw [List.take_add_one, h, sumI_app]; show _ + (F M + 0) = _; omega
def plN (M : FaceM) : Int := wgt M * M.places.length
def fnN (M : FaceM) : Int := wgt M * M.fingers.length
def ouN (M : FaceM) : Int := if M.outer then wgt M else 0
theorem wgt_pos (M : FaceM) : 0 ≤ wgt M := by unfold wgt; split <;> omega
theorem plN_nonneg (M : FaceM) : 0 ≤ plN M := Int.mul_nonneg (wgt_pos M) (by omega)
theorem fnN_nonneg (M : FaceM) : 0 ≤ fnN M := Int.mul_nonneg (wgt_pos M) (by omega)
theorem ouN_nonneg (M : FaceM) : 0 ≤ ouN M := by unfold ouN; split; exact wgt_pos M; omega
theorem ouN_two : ∀ (l : List FaceM), sumI ouN l = (sumN (fun M => if M.above = true ∧ M.outer = true then 1 else 0) l : Nat) + 1000 * (sumN (fun M => if M.above = false ∧ M.outer = true then 1 else 0) l : Nat)
  | [] => rfl
  | a :: l => by
    rw [sumI, ouN_two l, sumN, sumN]
    unfold ouN wgt
    cases a.above <;> cases a.outer <;> simp <;> omega

/-! ## The darts met -/
def cnts (N : Nat) (s : List Nat) : List Int := (List.range N).map fun x => (s.count x : Int)
theorem cnts_len (N : Nat) (s : List Nat) : (cnts N s).length = N := by unfold cnts; simp
theorem cnts_get {N : Nat} {s : List Nat} {x : Nat} (h : x < N) : (cnts N s)[x]? = some (s.count x : Int) := by
  unfold cnts; rw [List.getElem?_map, List.getElem?_range h]; rfl
theorem cnts_zero (N : Nat) : cnts N [] = List.replicate N 0 := by
  unfold cnts
  apply List.ext_getElem?
  intro i
  rw [List.getElem?_map, List.getElem?_replicate]
  by_cases h : i < N
  · rw [List.getElem?_range h, if_pos h]; rfl
  · rw [if_neg h, List.getElem?_eq_none (by simp; omega)]; rfl
theorem cnts_snoc {N : Nat} {s : List Nat} {d : Nat} (h : d < N) : cnts N (s ++ [d]) = (cnts N s).set d ((s.count d : Int) + 1) := by
  apply List.ext_getElem?
  intro i
  by_cases hi : i < N
  · rw [cnts_get hi, List.getElem?_set]
    by_cases e : d = i
    · subst e
      rw [if_pos rfl, if_pos (by rw [cnts_len]; exact h), List.count_append]
      simp
    · rw [if_neg e, cnts_get hi, List.count_append]
      have : List.count i [d] = 0 := by simp [List.count_cons]; exact e
      rw [this]; simp
  · rw [List.getElem?_eq_none (by rw [cnts_len]; omega), List.getElem?_eq_none (by rw [List.length_set, cnts_len]; omega)]

/-- All that the walk of the law needs. -/
structure EulP (f : Int) (ls : List Lt) (p x : Int) (L : List FaceM) (P : List (List Nat)) : Prop where
  len : (L.length : Int) = p + x + 2
  n60 : L.length ≤ 1000
  leq : L.length = P.length
  get : ∀ (j : Nat) (d : List Nat), P[j]? = some d → ∃ M h r, L[j]? = some M ∧ M.darts = d.map Int.ofNat ∧ d = h :: r ∧ (∀ y, y ∈ d → h ≤ y ∧ y < 2 * ls.length ∧ downB ls (y / 2 + 1) = M.above) ∧ d.length ≤ 2 * ls.length
  asc : ∀ (j a b : Nat) (r s : List Nat), P[j]? = some (a :: r) → P[j + 1]? = some (b :: s) → a < b
  one : ∀ y, y < 2 * ls.length → List.count y P.flatten = 1
  pl : sumI plN L = 1001 * (p + f + 1)
  fn : sumI fnN L = 1001 * f
  ou : sumI ouN L = 1001
theorem mem_len {α : Type} {l k : List α} (hn : l.Nodup) (h : ∀ x, x ∈ l → x ∈ k) : l.length ≤ k.length := hn.length_le_of_subset h
theorem euler_pure {f : Int} {ls : List Lt} (hv : checkE f ls = 0) (hn : 0 < ls.length) (h60 : ls.length ≤ 60) {st : OrdS} {pt : PairS} (ho : ordM ls (numP f ls) ls.length ls.length = some st) (hq : pairM ls (cntK 2 ls / 2) ls.length ls.length = some pt) :
    ∃ P, EulP f ls (cntB isPass ls) (cntK 2 ls / 2) ((dmOf f ls st pt).faces f) P := by
  obtain ⟨g, ⟨P, hP⟩, hm, h1, h2, h3⟩ := valid_fcs hv hn ho hq
  have hf := (checkE_zero hv).2.1
  have hD : (dmOf f ls st pt).n = ls.length := rfl
  have hDl : (dmOf f ls st pt).ls = ls := rfl
  generalize dmOf f ls st pt = D at *
  have hL : D.faces f = P.map (D.face f) := by
    unfold DM.faces
    rw [← hP.map, List.map_map]
    rfl
  have hlen : P.length = (D.outer (2 * D.n)).all.length := by rw [← hP.map, List.length_map]
  obtain ⟨a1, a2, a3⟩ := side_numbers g hP hm h3 true
  obtain ⟨b1, b2, b3⟩ := side_numbers g hP hm h3 false
  rw [← hL] at a1 a2 a3 b1 b2 b3
  have hp0 := cntB_take_le isPass ls ls.length
  have hx0 := cntK_take_le 2 ls ls.length
  rw [List.take_length] at hp0 hx0
  refine ⟨P, ?_, ?_, by rw [hL, List.length_map], fun j d hd => ?_, fun j a b r s ha hb => ?_, fun y hy => ?_, ?_, ?_, ?_⟩
  · rw [hL, List.length_map, hlen, h2]
  · rw [hL, List.length_map, hlen]; omega
  · have hm := List.mem_of_getElem? hd
    obtain ⟨h, r, e, q1, q2⟩ := hP.pc d hm
    refine ⟨D.face f d, h, r, by rw [hL, List.getElem?_map, hd]; rfl, rfl, e, fun y hy => ?_, ?_⟩
    · have hy2 := (hP.mem y).1 (List.mem_flatten.2 ⟨d, hm, hy⟩)
      refine ⟨q1 y hy, by rw [← hD]; exact hy2, ?_⟩
      have := g.abn (e := y / 2) (by omega)
      rw [hDl] at this
      rw [← this, q2 y hy]
      show _ = D.ab.getD (d.headD 0 / 2) false
      rw [e]; rfl
    · have hs : d.Nodup := (List.pairwise_flatten.1 hP.nodup).1 d hm
      have := mem_len hs (k := List.range (2 * ls.length)) (fun x hx => List.mem_range.2 (by
        have := (hP.mem x).1 (List.mem_flatten.2 ⟨d, hm, hx⟩)
        omega))
      rw [List.length_range] at this
      exact this
  · have := List.pairwise_iff_getElem.1 hP.asc j (j + 1) (List.getElem?_eq_some_iff.1 ha).1 (List.getElem?_eq_some_iff.1 hb).1 (by omega)
    rw [(List.getElem?_eq_some_iff.1 ha).2, (List.getElem?_eq_some_iff.1 hb).2] at this
    exact this
  · rw [List.Nodup.count hP.nodup, if_pos ((hP.mem y).2 (by omega))]
  · have := sumI_two (fun M => M.places.length) (D.faces f)
    unfold plN
    rw [this, a1, b1]
    omega
  · have := sumI_two (fun M => M.fingers.length) (D.faces f)
    unfold fnN
    rw [this, a2, b2]
    omega
  · rw [ouN_two, a3, b3]; rfl

end Go.Proofs.YtbbpockkafbfmaaDoor
