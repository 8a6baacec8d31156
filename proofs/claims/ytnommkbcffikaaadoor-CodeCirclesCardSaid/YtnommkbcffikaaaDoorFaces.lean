/-
  The walk of Faces.
-/
import Derived.Test.YtnommkbcffikaaaDoorFace
namespace Go.Proofs.YtnommkbcffikaaaDoor
open Go.RowKit

theorem DM.inner_facts {D : DM} (k : D.ok) (first start : Nat) : ∀ (fuel dart : Nat) (met : List Bool) (ds : List Nat), dart < 2 * D.n → (∀ d, d ∈ ds → d < 2 * D.n) → start ≤ ds.length →
    (∀ d, d ∈ (D.inner first start fuel dart met ds).2.2 → d < 2 * D.n) ∧ ds.length ≤ (D.inner first start fuel dart met ds).2.2.length ∧ ((D.inner first start fuel dart met ds).1 = true → start < (D.inner first start fuel dart met ds).2.2.length)
  | 0, dart, met, ds, hd, hds, hs => ⟨hds, Nat.le_refl _, fun h => by cases h⟩
  | fuel + 1, dart, met, ds, hd, hds, hs => by
    rw [DM.inner]
    split
    · split
      · exact ⟨hds, Nat.le_refl _, fun h => by cases h⟩
      · have ih := DM.inner_facts k first start fuel (D.left dart) (met.set dart true) (ds ++ [dart]) (DM.left_lt k hd) (fun d h => by
          rcases List.mem_append.1 h with h | h
          · exact hds d h
          · rw [List.mem_singleton] at h; subst h; exact hd) (by simp; omega)
        refine ⟨ih.1, ?_, ih.2.2⟩
        have := ih.2.1
        simp at this
        omega
    · rename_i hc
      refine ⟨hds, Nat.le_refl _, fun _ => ?_⟩
      dsimp only
      omega
theorem DM.outer_facts {D : DM} (k : D.ok) : ∀ q, q ≤ 2 * D.n → (∀ d, d ∈ (D.outer q).ds → d < 2 * D.n) ∧ (∀ p, p ∈ (D.outer q).all → p.1 < p.2 ∧ p.2 ≤ (D.outer q).ds.length) ∧ (D.outer q).all.length ≤ q
  | 0, _ => ⟨fun d h => by simp [DM.outer] at h, fun p h => by simp [DM.outer] at h, by simp [DM.outer]⟩
  | q + 1, hq => by
    obtain ⟨h1, h2, h3⟩ := DM.outer_facts k q (by omega)
    have ih := DM.inner_facts k q (D.outer q).ds.length (2 * D.n + 1) q (D.outer q).met (D.outer q).ds (by omega) h1 (Nat.le_refl _)
    rw [DM.outer]
    dsimp only
    refine ⟨ih.1, fun p hp => ?_, ?_⟩
    · split at hp
      · rename_i hb
        rcases List.mem_append.1 hp with hp | hp
        · have := h2 p hp; have := ih.2.1; omega
        · rw [List.mem_singleton] at hp
          subst hp
          exact ⟨ih.2.2 hb, Nat.le_refl _⟩
      · have := h2 p hp; have := ih.2.1; omega
    · split
      · simp; omega
      · omega
/-- The darts of a face. -/
def DM.piece (D : DM) (p : Nat × Nat) : List Nat := ((D.outer (2 * D.n)).ds.drop p.1).take (p.2 - p.1)
/-- The faces of a code. -/
def DM.faces (D : DM) (f : Int) : List FaceM := (D.outer (2 * D.n)).all.map fun p => D.face f (D.piece p)

theorem piece_sl {w : World} {gd B L C : Nat} {xs : List Nat} (h : OwnV w B 3 (.slice (some ⟨gd, 0, none⟩) L C) (xs.map intV)) {p : Nat × Nat} (h1 : p.1 < p.2) (h2 : p.2 ≤ xs.length) :
    SL w (some ⟨gd, p.1, none⟩) (p.2 - p.1) (((xs.drop p.1).take (p.2 - p.1)).map Int.ofNat) := by
  have hl := h.len
  rw [List.length_map] at hl
  refine ⟨by simp; omega, fun _ => ⟨gd, p.1, rfl, (h.lt gd rfl).2, fun k hk => ?_⟩⟩
  obtain ⟨y, hy, hc, _⟩ := h.cell (k := p.1 + k) (by omega)
  rw [hc]
  have hx : xs[p.1 + k]? = some xs[p.1 + k] := List.getElem?_eq_getElem (by omega)
  rw [List.getElem?_map, hx] at hy
  injection hy with hy
  rw [← hy, List.getElem?_map, List.getElem?_take, if_pos hk, List.getElem?_drop, hx]
  rfl

def faceVs (M : FaceM) (t : Value × Value × Value) : List Value := [.bool M.above, t.1, t.2.1, t.2.2, .bool M.outer]
/-- The faces in memory: their slices. -/
def FacesAt (w : World) (B : Nat) (Ms : List FaceM) (ts : List (Value × Value × Value)) : Prop :=
  ts.length = Ms.length ∧ ∀ (k : Nat) (M : FaceM) (t : Value × Value × Value), Ms[k]? = some M → ts[k]? = some t → OwnZ w B t.1 M.darts ∧ OwnP w B t.2.1 M.places ∧ OwnZ w B t.2.2 M.fingers
def OwnF (w : World) (B : Nat) (v : Value) (Ms : List FaceM) (ts : List (Value × Value × Value)) : Prop := w.ownsRow B 71 5 v Ms.length ((Ms.zip ts).flatMap fun p => faceVs p.1 p.2)
/-- What Faces leaves. -/
def FacesPost (D : DM) (f : Int) (w : World) (e : Ending) (w' : World) : Prop :=
  ∃ v ts, e = .returned (.tuple #[v, .int .i64 0]) ∧ OwnF w' w.heap.size v (D.faces f) ts ∧ FacesAt w' w.heap.size (D.faces f) ts ∧ Below w.heap.size w w'
def FsRel (D : DM) (f : Int) (w1 : World) (N : Nat) (av iv : Value) (wr : World) : Prop :=
  ∃ (j : Nat) (ts : List (Value × Value × Value)), j ≤ N ∧ iv = .int .i64 (j : Int) ∧ OwnF wr w1.heap.size av ((D.faces f).take j) ts ∧ FacesAt wr w1.heap.size ((D.faces f).take j) ts ∧ Below w1.heap.size w1 wr

theorem infoFace : (Tryd.prog.info? 71).map (fun i => (i.zero, i.size, i.bytes)) = some (some (.agg #[.bool false, .slice none 0 0, .slice none 0 0, .slice none 0 0, .bool false]), 5, 88) := by kernel_rfl

theorem plain_gate {f : Int} {l : Lt} (h : plainL f l) (hf : 0 ≤ f) : 0 ≤ l.gate ∧ l.gate ≤ f := by
  rcases h with h | h
  · exact ⟨h.2.2.2.2.1, h.2.2.2.2.2⟩
  · rw [h.2.1]; exact ⟨Int.le_refl _, hf⟩
theorem OwnF.nil (w : World) (B : Nat) (ts : List (Value × Value × Value)) (h : ts = []) : OwnF w B (.slice none 0 0) [] ts := by subst h; exact World.ownsRow_nil _ _ _ _
/-- One face more. -/
theorem faces_push {w wr w3 w5 : World} {B : Nat} {av v5 : Value} {Ms : List FaceM} {ts : List (Value × Value × Value)} {M : FaceM} {dv pv fv : Value} (h1 : OwnF wr B av Ms ts) (h2 : FacesAt wr B Ms ts) (hb : Below B w wr) (h3 : Below wr.heap.size wr w3) (hB : B ≤ wr.heap.size)
    (q1 : OwnZ w3 wr.heap.size dv M.darts) (q2 : OwnP w3 wr.heap.size pv M.places) (q3 : OwnZ w3 wr.heap.size fv M.fingers) (o : Obj) (hg : (w3.alloc o).grownBy w5 av.ownBlock) (ho : w5.ownsRow B 71 5 v5 (Ms.length + 1) (((Ms.zip ts).flatMap fun p => faceVs p.1 p.2) ++ faceVs M (dv, pv, fv))) :
    OwnF w5 B v5 (Ms ++ [M]) (ts ++ [(dv, pv, fv)]) ∧ FacesAt w5 B (Ms ++ [M]) (ts ++ [(dv, pv, fv)]) ∧ Below B w w5 := by
  have hav : (w3.alloc o).ownsRow B 71 5 av Ms.length ((Ms.zip ts).flatMap fun p => faceVs p.1 p.2) := ownsRow_below (ownsRow_below h1 h3) ((Below.refl _ _).alloc (Nat.le_refl _) o)
  have hbb : Below B w (w3.alloc o) := (hb.trans (h3.mono hB)).alloc (by have := h3.size; omega) o
  have hkeep : ∀ {T : TypeId} {sz n B' : Nat} {v : Value} {xs : List Value}, B ≤ B' → w3.ownsRow B' T sz v n xs → T ≠ 71 → w5.ownsRow B T sz v n xs := fun hBB h hT => by
    have h' := ownsRow_below h ((Below.refl _ _).alloc (Nat.le_refl _) o)
    exact own_base (own_kept2 h' (fun g e => hg.block g (World.ownsRow.lt h' g e).2 (fun c => own_apart h' hav hT g e c.symm))) hBB
  refine ⟨?_, ⟨by simp [h2.1], fun k M' t hM ht => ?_⟩, hbb.grown hg (show B ≤ (w3.alloc o).heap.size by have h9 := h3.size; simp; omega) (fun j hj => (World.ownsRow.lt hav j hj).1)⟩
  · unfold OwnF
    rw [List.zip_append h2.1.symm, List.flatMap_append, List.length_append]
    simpa using ho
  · by_cases e : k < Ms.length
    · rw [List.getElem?_append_left e] at hM
      rw [List.getElem?_append_left (by rw [h2.1]; exact e)] at ht
      obtain ⟨r1, r2, r3⟩ := h2.2 k M' t hM ht
      exact ⟨hkeep (Nat.le_refl _) (ownsRow_below r1 h3) (by decide), hkeep (Nat.le_refl _) (ownsRow_below r2 h3) (by decide), hkeep (Nat.le_refl _) (ownsRow_below r3 h3) (by decide)⟩
    · have hk : k = Ms.length := by
        rcases Nat.lt_or_ge k (Ms ++ [M]).length with q | q
        · simp at q; omega
        · rw [List.getElem?_eq_none q] at hM; cases hM
      subst hk
      rw [List.getElem?_append_right (Nat.le_refl _), Nat.sub_self] at hM
      rw [List.getElem?_append_right (by rw [h2.1]; exact Nat.le_refl _), h2.1, Nat.sub_self] at ht
      injection hM with hM
      injection ht with ht
      subst hM; subst ht
      exact ⟨hkeep hB q1 (by decide), hkeep hB q2 (by decide), hkeep hB q3 (by decide)⟩

set_option maxHeartbeats 4000000 in
set_option maxRecDepth 100000 in
theorem faces_calls (f : Int) (A : Option Addr) (n c : Nat) (ls : List Lt) (w : World) (hL : LS w A n ls) (hA : ∀ b off, A = some ⟨b, off, none⟩ → b < w.heap.size) (hI : ∀ l, l ∈ ls → I64 l.id) (hz : checkE f ls = 0) (hn : 0 < n) :
    Calls Tryd.prog 22 #[.agg #[.int .i64 f, .slice A n c]] w fun e w' => ∃ st pt, ordM ls (numP f ls) n n = some st ∧ pairM ls (cntK 2 ls / 2) n n = some pt ∧ FacesPost (dmOf f ls st pt) f w e w' := by
  have hll := hL.1
  subst hll
  have HDR : Hid (∀ W, Below w.heap.size w W → Calls Tryd.prog 58 #[.agg #[.int .i64 f, .slice A ls.length c]] W fun e w' => ∃ P ga x s o st pt, e = .returned (.tuple #[.pointer (some ⟨P, 0, none⟩), .int .i64 0]) ∧ (dmOf f ls st pt).ok ∧
      DMem (dmOf f ls st pt) w' P f A (some ⟨ga, 0, none⟩) (some ⟨x, 0, none⟩) (some ⟨s, 0, none⟩) (some ⟨o, 0, none⟩) c ls.length (numP f ls) ls.length ls.length ∧ ordM ls (numP f ls) ls.length ls.length = some st ∧ pairM ls (cntK 2 ls / 2) ls.length ls.length = some pt ∧
      f ≤ 40 ∧ (∀ l, l ∈ ls → 0 ≤ l.gate ∧ l.gate ≤ f) ∧ Below W.heap.size W w') := by
    intro W hW
    refine (draw_calls f A ls.length c ls W (hL.below hW) (fun b off e => Nat.lt_of_lt_of_le (hA b off e) hW.size) hI).mono ?_
    rintro e w' ⟨hb, ⟨hne, _⟩ | ⟨P, _, _, _, rfl, h1, h2, h3, h4, ga, x, s, o, st, pt, g1, g2, g3, g4, e1, e2, e3, h, o1, o2, o3, o4⟩⟩
    · exact absurd hz hne
    · exact ⟨P, ga, x, s, o, st, pt, rfl, dmOf_ok h1 h2 h4 hn e1 e2, ⟨h.dia, (hL.below hW).below hb, BL.of_own o1, SL.of_ownV o2, SL.of_ownV o3, SL.of_ownV o4⟩, e1, e2, h2.2, fun l hl => plain_gate (h4 l hl) h2.1, hb⟩
  clear hL hA hI hz
  go_enter Tryd.func22, Tryd.ntmps22
  go_wp2_with fail
  refine (HDR.out _ ((Below.refl _ _).alloc (Nat.le_refl _) _)).mono ?_
  rintro e w1 ⟨P, ga, x, s, o, st, pt, rfl, hok, hmem, ho, hp, hf, hg, hb1⟩
  have HB1 : Hid (Below w.heap.size w w1) := ((Below.refl w.heap.size w).alloc (Nat.le_refl _) _).trans (hb1.mono (by simp))
  obtain ⟨D, hD⟩ : ∃ D, dmOf f ls st pt = D := ⟨_, rfl⟩
  have HOP := Lib.hid (And.intro ho (And.intro hp hD))
  have hDL : D.ls = ls := by rw [← hD]; rfl
  rw [hD] at hok hmem
  have HK := Lib.hid hok
  have HM := Lib.hid hmem
  have HG : Hid (∀ l, l ∈ D.ls → 0 ≤ l.gate ∧ l.gate ≤ f) := by rw [hDL]; exact hg
  have HW := Lib.hid (walks_calls hok hmem)
  clear hok hmem ho hp hg hb1 hD hDL
  go_wp2_with (first
    | (go_at_call 63; refine HW.out.mono ?_; rintro e w2 ⟨v, gd, rfl, hgd, hown, hds, hb2⟩; obtain ⟨Av, cv, rfl⟩ := own_form hown; have HOWN := Lib.hid hown; have HDS := Lib.hid hds; have HB2 := Lib.hid hb2; clear hgd hown hds hb2))
  have HOF := Lib.hid (DM.outer_facts HK.out (2 * D.n) (Nat.le_refl _))
  obtain ⟨N, hN⟩ : ∃ N, N = (D.outer (2 * D.n)).all.length := ⟨_, rfl⟩
  have HAN : Hid (N = (D.outer (2 * D.n)).all.length) := hN
  have HNF : Hid ((D.faces f).length = N) := by unfold Hid DM.faces; rw [hN, List.length_map]
  have hN2 : N ≤ 2000 := by have h1 := HOF.out.2.2; have h2 := HK.out.n1; omega
  have HDL2 : Hid ((D.outer (2 * D.n)).ds.length ≤ 2000) := by
    have h2 := HK.out.n1
    rcases HDS.out.2 with ⟨hv, _⟩ | ⟨g, cap, cur, hv, _, _, hc, _⟩
    · cases hv
    · injection hv with _ e1 e2
      show _ ≤ _
      omega
  rw [← hN]
  have HST : Hid (FsRel D f w2 N (.slice none 0 0) (.int .i64 0) w2) := ⟨0, [], Nat.zero_le _, rfl, World.ownsRow_nil _ _ _ _, ⟨rfl, fun k M t hM => by simp at hM⟩, Below.refl _ _⟩
  clear hN
  go_loopw [6, 20] (fun av iv wr => FsRel D f w2 N av iv wr) (fun _ iv _ => N - (intOf iv).toNat)
  case atStart => exact HST.out
  case round =>
    obtain ⟨j, ts, hj, rfl, hof, hfa, hb⟩ := hrel
    have HTL : Hid (((D.faces f).take j).length = j) := by unfold Hid; rw [List.length_take, HNF.out]; omega
    obtain ⟨Aj, cj, hav⟩ := own_form hof
    rw [HTL.out] at hav
    subst hav
    have HFF := Lib.hid hof
    have HFA := Lib.hid hfa
    have HB := Lib.hid hb
    have hbs := hb.size
    clear hof hfa hb
    by_cases hlt : j < N
    · obtain ⟨p, hp⟩ : ∃ p, (D.outer (2 * D.n)).all[j]? = some p := ⟨_, List.getElem?_eq_getElem (by have h1 := HAN.out; omega)⟩
      have hpp := HOF.out.2.1 p (List.mem_of_getElem? hp)
      have HOW := Lib.hid (HOWN.out.below HB.out)
      obtain ⟨gw, rfl⟩ : ∃ gw, Av = some ⟨gw, 0, none⟩ := by
        rcases HOWN.out.2 with ⟨hv, h0⟩ | ⟨g, cap, cur, hv, _⟩
        · have h1 := HAN.out
          rw [List.length_map] at h0
          omega
        · injection hv with e1
          exact ⟨g, e1⟩
      have hpc : wr.cell? ⟨gw, j, none⟩ = some (.slice (some ⟨gd, p.1, none⟩) (p.2 - p.1) (2 * D.n - p.1)) := by
        have ho2 := HOW.out
        have hl2 : ((D.outer (2 * D.n)).all.map (pieceV gd (2 * D.n))).length = N := by rw [List.length_map]; exact HAN.out.symm
        obtain ⟨y, hy, hc, _⟩ := OwnV.cell ho2 (k := j) (by have h1 := OwnV.len ho2; omega)
        rw [List.getElem?_map, hp] at hy
        injection hy with hy
        rw [hc, ← hy]
        rfl
      have HFC := Lib.hid (face_calls HK.out ((HM.out.below HB2.out).below HB.out) hf (by exact HG.out) gd p.1 (p.2 - p.1) (2 * D.n - p.1) (D.piece p) (piece_sl (HDS.out.below HB.out) hpp.1 hpp.2) (by omega) (by have h1 := HDL2.out; omega) (fun d hd => HOF.out.1 d (List.mem_of_mem_drop (List.mem_of_mem_take hd))))
      have HTK : Hid ((D.faces f).take (j + 1) = (D.faces f).take j ++ [D.face f (D.piece p)]) := by
        unfold Hid
        rw [List.take_add_one]
        unfold DM.faces
        rw [List.getElem?_map, hp]
        rfl
      obtain ⟨M, hM⟩ : ∃ M, D.face f (D.piece p) = M := ⟨_, rfl⟩
      rw [hM] at HFC HTK
      obtain ⟨dp, hdp⟩ : ∃ dp, p.2 - p.1 = dp := ⟨_, rfl⟩
      obtain ⟨dc, hdc⟩ : ∃ dc, 2 * D.n - p.1 = dc := ⟨_, rfl⟩
      rw [hdp, hdc] at HFC hpc
      have hji : (j : Int) < N := by omega
      obtain ⟨i0, hi, hz0, hz1, hz2⟩ := info_parts infoFace
      clear hp hpp hM hdp hdc
      go_wp2_with (first
        | (go_at_call 64; refine HFC.out.mono ?_; rintro e w3 ⟨dv, pv, fv, rfl, q1, q2, q3, hb3⟩; obtain ⟨A1, c1, rfl⟩ := own_form q1; obtain ⟨A2, c2, rfl⟩ := own_form q2; obtain ⟨A3, c3, rfl⟩ := own_form q3; have HQ := Lib.hid (And.intro q1 (And.intro q2 (And.intro q3 hb3))); have h3s := hb3.size; have HAV : Hid (∀ o, (w3.alloc o).ownsRow w2.heap.size 71 5 (.slice Aj j cj) j ((((D.faces f).take j).zip ts).flatMap fun p => faceVs p.1 p.2)) := (by intro o; have h1 := ownsRow_below (ownsRow_below HFF.out hb3) ((Below.refl _ _).alloc (Nat.le_refl _) o); rw [HTL.out] at h1; exact h1); clear q1 q2 q3 hb3)
        | (at_builtin; refine wpList_append_own_at _ rfl _ _ 35 rfl w2.heap.size 71 i0 (.agg #[.bool false, .slice none 0 0, .slice none 0 0, .slice none 0 0, .bool false]) 5 88 Tryd.underlying35 hi hz0 hz1 hz2 rfl (by decide) (.slice Aj j cj) j _ rfl (HAV.out _) ⟨w3.heap.size, 0, none⟩ 1 1 [.bool M.above, .slice A1 _ c1, .slice A2 _ c2, .slice A3 _ c3, .bool M.outer] rfl rfl (cells_new _ _ _) (by intro u hu; simp only [List.mem_cons, List.not_mem_nil, or_false] at hu; rcases hu with rfl | rfl | rfl | rfl | rfl <;> rfl) (by have := HTL.out; unfold maxLen; omega) (by have := HTL.out; omega) (by simp; omega) ?_; intro v5 w5 hown5 hgr5 hnil5 hloc5; have H5 := Lib.hid (faces_push HFF.out HFA.out HB.out HQ.out.2.2.2 HB.out.size HQ.out.1 HQ.out.2.1 HQ.out.2.2.1 _ hgr5 (by rw [HTL.out]; exact hown5)); clear hown5 hgr5 hnil5 hloc5))
      go_roundw
      case rel =>
        have hrr : FsRel D f w2 N v5 (.int .i64 ((j : Int) + 1)) w5 := ⟨j + 1, ts ++ [_], by omega, rfl, by rw [HTK.out]; exact H5.out.1, by rw [HTK.out]; exact H5.out.2.1, H5.out.2.2⟩
        first | exact hrr | ((repeat (apply Exists.intro)); exact And.intro hrr rfl)
      case measure => simp [intOf]; omega
    · have hjn : j = N := by omega
      subst hjn
      go_wp2_with fail
      go_ret2
      have hfe : (D.faces f).take j = D.faces f := List.take_of_length_le (by rw [HNF.out]; exact Nat.le_refl _)
      have hw1 := HB1.out.size
      have hw2 := HB2.out.size
      have hBB : w.heap.size ≤ w2.heap.size := by omega
      refine ⟨st, pt, HOP.out.1, HOP.out.2.1, ?_⟩
      rw [HOP.out.2.2]
      refine ⟨_, ts, rfl, ?_, ⟨?_, fun k M t hM ht => ?_⟩, (HB1.out.trans (HB2.out.mono hw1)).trans (HB.out.mono hBB)⟩
      · have h1 := own_base HFF.out hBB
        rw [hfe] at h1
        exact h1
      · have h1 := HFA.out.1; rw [hfe] at h1; exact h1
      · have h1 := HFA.out.2 k M t (by rw [hfe]; exact hM) ht
        exact ⟨own_base h1.1 hBB, own_base h1.2.1 hBB, own_base h1.2.2 hBB⟩

end Go.Proofs.YtnommkbcffikaaaDoor
