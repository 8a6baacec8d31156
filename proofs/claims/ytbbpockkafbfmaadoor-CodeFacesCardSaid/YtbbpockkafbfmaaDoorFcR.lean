/-
  The reference's face of a walk is the program's face of its darts (pure, for CodeFaces).
-/
import Derived.Test.YtbbpockkafbfmaaDoorFcs
namespace Go.Proofs.YtbbpockkafbfmaaDoor
open Go.RowKit

/-- The places and fingers of a piece of the axis. -/
def pcP (f : Int) (ls : List Lt) (ax : List Nat) (m j : Nat) : List (Int × Int) := if j + 1 < m then gapPlaces f ls ax m (j + 1) else gapPlaces f ls ax m m ++ gapPlaces f ls ax m 0
def pcZ (f : Int) (ls : List Lt) (ax : List Nat) (m j : Nat) : List Int := if j + 1 < m then gapFingers f ls ax m (j + 1) else gapFingers f ls ax m m ++ gapFingers f ls ax m 0
/-- What a dart of a walk brings. -/
def DM.rpl (D : DM) (f : Int) (e : Nat) : List (Int × Int) := if e < 2 * D.n then [] else if e % 2 = 0 then pcP f D.ls D.ax D.m ((e - 2 * D.n) / 2) else (pcP f D.ls D.ax D.m ((e - 2 * D.n) / 2)).reverse
def DM.rfz (D : DM) (f : Int) (e : Nat) : List Int := if e < 2 * D.n then [] else if e % 2 = 0 then pcZ f D.ls D.ax D.m ((e - 2 * D.n) / 2) else (pcZ f D.ls D.ax D.m ((e - 2 * D.n) / 2)).reverse
def DM.rou (D : DM) (e : Nat) : Bool := if e < 2 * D.n then false else decide ((e - 2 * D.n) / 2 + 1 = D.m)
def DM.rda (D : DM) (e : Nat) : List Nat := if e < 2 * D.n then [e] else []
/-- The reference's face of a walk. -/
def DM.rface (D : DM) (f : Int) (wk : List Nat) : FaceM :=
  ⟨downB D.ls (wk.headD 0 / 2 + 1), (wk.flatMap D.rda).map Int.ofNat, wk.flatMap (D.rpl f), wk.flatMap (D.rfz f), wk.any D.rou⟩

variable {D : DM}
theorem dart_ref (g : D.good) (f : Int) {d : Nat} (hd : d < 2 * D.n) {u : Bool} (hu : D.ab.getD (d / 2) false = u) :
    (exD D.turn (2 * D.n) d).flatMap D.rda = [d] ∧ (exD D.turn (2 * D.n) d).flatMap (D.rpl f) = D.fps f u (D.gaps u d) ∧ (exD D.turn (2 * D.n) d).flatMap (D.rfz f) = D.fzs f u (D.gaps u d) ∧
    (exD D.turn (2 * D.n) d).any D.rou = decide ((D.gaps u d).length = 2) := by
  obtain ⟨he, l, hl, hk⟩ := DM.at_end g hd
  have d1 : D.rda d = [d] := by unfold DM.rda; rw [if_pos hd]
  have d2 : D.rpl f d = [] := by unfold DM.rpl; rw [if_pos hd]
  have d3 : D.rfz f d = [] := by unfold DM.rfz; rw [if_pos hd]
  have d4 : D.rou d = false := by unfold DM.rou; rw [if_pos hd]
  rcases hk with hk | hk
  · obtain ⟨hs, _⟩ := g.spa _ _ hl hk
    have ht := (DM.turn_axis g hd hl hk).1
    have hG : D.gaps u d = gapsM D.m (D.sp.getD (endM D.n d) 0) u := by unfold DM.gaps; rw [hl]; simp [hk]
    have hT := DM.turn_pass g hd hl hk
    have hx : exD D.turn (2 * D.n) d = [d, D.turn d] := by unfold exD; rw [if_neg (by omega)]
    rw [hx, hG]
    generalize D.sp.getD (endM D.n d) 0 = s at *
    have e0 : ¬ D.turn d < 2 * D.n := by omega
    have e1 : D.rda (D.turn d) = [] := by unfold DM.rda; rw [if_neg e0]
    refine ⟨by simp [d1, e1], ?_⟩
    rw [List.flatMap_cons, List.flatMap_cons, List.flatMap_nil, List.flatMap_cons, List.flatMap_cons, List.flatMap_nil, List.any_cons, List.any_cons, List.any_nil, d2, d3, d4, List.append_nil, List.append_nil, List.nil_append, List.nil_append, Bool.or_false, Bool.false_or]
    unfold DM.rpl DM.rfz DM.rou
    rw [if_neg e0, if_neg e0, if_neg e0]
    unfold DM.fps DM.fzs
    rw [hu] at hT
    cases u with
    | true =>
      rw [if_pos rfl] at hT
      have e2 : D.turn d % 2 = 0 := by omega
      have e3 : (D.turn d - 2 * D.n) / 2 = s := by omega
      rw [if_pos e2, if_pos e2, e3]
      unfold pcP pcZ
      by_cases hm : s + 1 = D.m
      · have e4 : gapsM D.m s true = [D.m, 0] := by unfold gapsM; rw [if_pos ⟨rfl, hm⟩]
        rw [e4, if_neg (by omega), if_neg (by omega)]
        refine ⟨by simp [meetP], by simp [meetZ], by simp [hm]⟩
      · have e4 : gapsM D.m s true = [s + 1] := by unfold gapsM; rw [if_neg (by simp [hm]), if_pos rfl]
        rw [e4, if_pos (by omega), if_pos (by omega)]
        refine ⟨by simp [meetP], by simp [meetZ], by simp [hm]⟩
    | false =>
      rw [if_neg (by decide)] at hT
      have e2 : ¬ D.turn d % 2 = 0 := by omega
      have e3 : (D.turn d - 2 * D.n) / 2 = (s + D.m - 1) % D.m := by omega
      rw [if_neg e2, if_neg e2, e3]
      unfold pcP pcZ
      by_cases h0 : s = 0
      · have e5 : (s + D.m - 1) % D.m = D.m - 1 := by rw [Nat.mod_eq_of_lt (by omega)]; omega
        have e4 : gapsM D.m s false = [0, D.m] := by unfold gapsM; rw [if_neg (by simp), if_neg (by simp), if_pos h0]
        rw [e4, e5, if_neg (by omega), if_neg (by omega)]
        refine ⟨by simp [meetP], by simp [meetZ], ?_⟩
        rw [decide_eq_true (show D.m - 1 + 1 = D.m by omega)]; rfl
      · have e5 : (s + D.m - 1) % D.m = s - 1 := by
          rw [show s + D.m - 1 = s - 1 + D.m by omega, Nat.add_mod_right, Nat.mod_eq_of_lt (by omega)]
        have e4 : gapsM D.m s false = [s] := by unfold gapsM; rw [if_neg (by simp), if_neg (by simp), if_neg h0]
        rw [e4, e5, if_pos (by omega), if_pos (by omega), show s - 1 + 1 = s by omega]
        refine ⟨by simp [meetP], by simp [meetZ], ?_⟩
        rw [decide_eq_false (show ¬ s = D.m by omega)]; rfl
  · have hG : D.gaps u d = [] := by unfold DM.gaps; rw [hl]; simp [hk]
    have hx : exD D.turn (2 * D.n) d = [d] := by
      unfold exD
      rw [if_pos (by rw [DM.turn_cross hd hl hk]; exact DM.left_lt g.ok hd)]
    rw [hx, hG]
    refine ⟨by simp [d1], by simp [d2, DM.fps], by simp [d3, DM.fzs], by simp [d4]⟩

theorem rface_eq (g : D.good) (f : Int) {p : List Nat} {h : Nat} {r : List Nat} (hp : p = h :: r) (hb : ∀ d, d ∈ p → d < 2 * D.n) (hs : ∀ d, d ∈ p → D.ab.getD (d / 2) false = D.ab.getD (h / 2) false) :
    D.rface f (p.flatMap (exD D.turn (2 * D.n))) = D.face f p := by
  have hh : h < 2 * D.n := hb h (by rw [hp]; exact List.mem_cons_self ..)
  have e1 : (p.flatMap (exD D.turn (2 * D.n))).headD 0 = h := by
    rw [hp, List.flatMap_cons]
    unfold exD
    split <;> rfl
  have e2 : p.headD 0 = h := by rw [hp]; rfl
  obtain ⟨u, hu⟩ : ∃ u, D.ab.getD (h / 2) false = u := ⟨_, rfl⟩
  have e3 : downB D.ls (h / 2 + 1) = u := by rw [← hu]; exact (g.abn (by omega)).symm
  have key : ∀ q : List Nat, (∀ d, d ∈ q → d < 2 * D.n ∧ D.ab.getD (d / 2) false = u) →
      (q.flatMap (exD D.turn (2 * D.n))).flatMap D.rda = q ∧ (q.flatMap (exD D.turn (2 * D.n))).flatMap (D.rpl f) = q.flatMap (fun d => D.fps f u (D.gaps u d)) ∧
      (q.flatMap (exD D.turn (2 * D.n))).flatMap (D.rfz f) = q.flatMap (fun d => D.fzs f u (D.gaps u d)) ∧ (q.flatMap (exD D.turn (2 * D.n))).any D.rou = q.any fun d => decide ((D.gaps u d).length = 2) := by
    intro q
    induction q with
    | nil => intro _; exact ⟨rfl, rfl, rfl, rfl⟩
    | cons a q ih =>
      intro hq
      obtain ⟨i1, i2, i3, i4⟩ := ih (fun d hd => hq d (List.mem_cons_of_mem _ hd))
      obtain ⟨ha, hau⟩ := hq a (List.mem_cons_self ..)
      obtain ⟨j1, j2, j3, j4⟩ := dart_ref g f ha hau
      rw [List.flatMap_cons, List.flatMap_append, List.flatMap_append, List.flatMap_append, List.any_append, i1, i2, i3, i4, j1, j2, j3, j4]
      exact ⟨rfl, rfl, rfl, rfl⟩
  obtain ⟨k1, k2, k3, k4⟩ := key p (fun d hd => ⟨hb d hd, by rw [hs d hd, hu]⟩)
  unfold DM.rface DM.face
  rw [e1, e2, e3, k1, k2, k3, k4, hu]

/-- The reference's faces are the program's. -/
theorem faces_ref (g : D.good) (f : Int) {P : List (List Nat)} (hP : Fcs D P) : ((refOut D.turn (2 * D.n + 2 * D.m) (2 * D.n + 2 * D.m)).2.map (D.rface f)) = D.faces f := by
  rw [walks_ref g, List.map_map]
  unfold DM.faces
  apply List.map_congr_left
  intro q hq
  have hm : D.piece q ∈ P := by rw [← hP.map]; exact List.mem_map.2 ⟨q, hq, rfl⟩
  obtain ⟨h, r, e, _, hs⟩ := hP.pc _ hm
  exact rface_eq g f e (fun d hd => (hP.mem d).1 (List.mem_flatten.2 ⟨_, hm, hd⟩)) hs

end Go.Proofs.YtbbpockkafbfmaaDoor
