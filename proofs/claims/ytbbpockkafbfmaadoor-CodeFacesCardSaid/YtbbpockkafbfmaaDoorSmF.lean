/-
  FcF SmF, one after the other.
-/
import Derived.Test.YtbbpockkafbfmaaDoorEulV
import Derived.Test.YtbbpockkafbfmaaDoorRefPe
import Derived.Test.YtbbpockkafbfmaaDoorLEq
import Derived.Deep.RegionHeld3
import Derived.Laws.StructEq

/-
  The program's faces of a valid code, in memory, whole (for CodeFaces).
-/
namespace Go.Proofs.YtbbpockkafbfmaaDoor
open Go.RowKit

/-- The j-th face, whole. -/
def FcF (w : World) (G j : Nat) (M : FaceM) : Prop :=
  ∃ A1 c1 A2 c2 A3 c3, w.cell? ⟨G, j * 5, none⟩ = some (.bool M.above) ∧ w.cell? ⟨G, j * 5 + 1, none⟩ = some (.slice A1 M.darts.length c1) ∧ w.cell? ⟨G, j * 5 + 2, none⟩ = some (.slice A2 M.places.length c2) ∧
    w.cell? ⟨G, j * 5 + 3, none⟩ = some (.slice A3 M.fingers.length c3) ∧ w.cell? ⟨G, j * 5 + 4, none⟩ = some (.bool M.outer) ∧ SL w A1 M.darts.length M.darts ∧ SP w A2 M.places.length M.places ∧ SL w A3 M.fingers.length M.fingers
def FsF (w : World) (G : Nat) (L : List FaceM) : Prop := G < w.heap.size ∧ ∀ (j : Nat) (M : FaceM), L[j]? = some M → FcF w G j M
theorem FcF.below {w w' : World} {G j : Nat} {M : FaceM} (h : FcF w G j M) (hG : G < w.heap.size) (hb : Below w.heap.size w w') : FcF w' G j M := by
  obtain ⟨A1, c1, A2, c2, A3, c3, h0, h1, h2, h3, h4, h5, h6, h7⟩ := h
  have e : ∀ o, w'.cell? ⟨G, o, none⟩ = w.cell? ⟨G, o, none⟩ := fun o => hb.cell (p := ⟨G, o, none⟩) hG
  exact ⟨A1, c1, A2, c2, A3, c3, (e _).trans h0, (e _).trans h1, (e _).trans h2, (e _).trans h3, (e _).trans h4, h5.below hb, h6.below hb, h7.below hb⟩
theorem FsF.below {w w' : World} {G : Nat} {L : List FaceM} (h : FsF w G L) (hb : Below w.heap.size w w') : FsF w' G L :=
  ⟨Nat.lt_of_lt_of_le h.1 hb.size, fun j M hj => (h.2 j M hj).below h.1 hb⟩
theorem flat5F {α : Type} {F : α → List Value} (h5 : ∀ a, (F a).length = 5) : ∀ {l : List α} {k : Nat} {a : α}, l[k]? = some a → ∀ i x, (F a)[i]? = some x → (l.flatMap F)[k * 5 + i]? = some x
  | [], k, a, h, _, _, _ => by simp at h
  | b :: l, 0, a, h, i, x, hx => by
    rw [List.flatMap_cons, Nat.zero_mul, Nat.zero_add]
    rw [List.getElem?_cons_zero] at h
    injection h with h
    subst h
    rw [List.getElem?_append_left (List.getElem?_eq_some_iff.1 hx).1]
    exact hx
  | b :: l, k + 1, a, h, i, x, hx => by
    rw [List.flatMap_cons, List.getElem?_append_right (by rw [h5]; omega), h5, show (k + 1) * 5 + i - 5 = k * 5 + i by omega]
    exact flat5F h5 (by simpa using h) i x hx
/-- Faces in a row read so, whoever made them. -/
theorem FsF.of {w : World} {B G c : Nat} {L : List FaceM} {ts : List (Value × Value × Value)} (h : OwnF w B (.slice (some ⟨G, 0, none⟩) L.length c) L ts) (hf : FacesAt w B L ts) : FsF w G L := by
  refine ⟨(World.ownsRow.lt h G rfl).2, fun j M hj => ?_⟩
  have hjl := (List.getElem?_eq_some_iff.1 hj).1
  obtain ⟨t, ht⟩ : ∃ t, ts[j]? = some t := ⟨_, List.getElem?_eq_getElem (by rw [hf.1]; exact hjl)⟩
  obtain ⟨q1, q2, q3⟩ := hf.2 j M t hj ht
  have hz : (L.zip ts)[j]? = some (M, t) := by rw [List.getElem?_zip_eq_some]; exact ⟨hj, ht⟩
  have hc : ∀ i x, (faceVs M t)[i]? = some x → w.cell? ⟨G, j * 5 + i, none⟩ = some x := fun i x hx => (ownsRow_cell h (flat5F (F := fun p => faceVs p.1 p.2) (fun _ => rfl) hz i x hx)).1
  obtain ⟨t1, t2, t3⟩ := t
  obtain ⟨A1, c1, rfl⟩ := own_form q1
  obtain ⟨A2, c2, rfl⟩ := own_form q2
  obtain ⟨A3, c3, rfl⟩ := own_form q3
  exact ⟨A1, c1, A2, c2, A3, c3, hc 0 _ rfl, hc 1 _ rfl, hc 2 _ rfl, hc 3 _ rfl, hc 4 _ rfl, SL.of_own q1, q2.sp, SL.of_own q3⟩
theorem idsF5 {f : Int} {L : List Lt} (hv : checkE f L = 0) : ∀ l, l ∈ L → I64 l.id := by
  obtain ⟨_, _, _, hpl, st, pt, _, hq, _⟩ := checkE_all hv
  intro l hl
  have h3 := (checkE_zero hv).1
  have h4 := cntK_take_le 2 L L.length
  rw [List.take_length] at h4
  rcases hpl l hl with c | c
  · rw [c.2.1]; constructor <;> decide
  · have h1 := pair_fine hq l hl c.1
    constructor <;> omega
/-- What Faces returns for a valid code, whole; the map is the same at each call. -/
theorem facesF {f : Int} {A : Option Addr} {n c : Nat} {ls : List Lt} {w : World} (hL : LS w A n ls) (hA : ∀ b off, A = some ⟨b, off, none⟩ → b < w.heap.size) (hv : checkE f ls = 0) (hn : 0 < n) :
    ∃ D P, D.good ∧ Fcs D P ∧ D.ls = ls ∧ D.n = n ∧ (∀ l, l ∈ D.ls → l.kind = 1 → 0 ≤ l.gate ∧ l.gate ≤ f) ∧ 0 < (D.faces f).length ∧
      ∀ W, Below w.heap.size w W → Calls Tryd.prog 14 #[.agg #[.int .i64 f, .slice A n c]] W fun e w' => ∃ G c', e = .returned (.tuple #[.slice (some ⟨G, 0, none⟩) (D.faces f).length c', .int .i64 0]) ∧ FsF w' G (D.faces f) ∧ Below W.heap.size W w' := by
  have hl := hL.1
  obtain ⟨_, _, _, _, st, pt, ho, hq, _⟩ := checkE_all hv
  obtain ⟨g, ⟨P, hP⟩, hm, h1, h2, h3⟩ := valid_fcs hv (by omega) ho hq
  have hlen : 0 < ((dmOf f ls st pt).faces f).length := by
    unfold DM.faces
    rw [List.length_map]
    have hp0 := cntB_nonneg isPass ls
    have hx0 := cntK_nonneg 2 ls
    omega
  refine ⟨dmOf f ls st pt, P, g, hP, rfl, hl, h3, hlen, fun W hW => ?_⟩
  refine (faces_calls f A n c ls W (hL.below hW) (fun b off e => Nat.lt_of_lt_of_le (hA b off e) hW.size) (idsF5 hv) hv hn).mono ?_
  rintro e w' ⟨st', pt', ho', hq', v, ts, rfl, hof, hfa, hb⟩
  rw [← hl, ho] at ho'
  rw [← hl, hq] at hq'
  injection ho' with ho'
  injection hq' with hq'
  subst ho' hq'
  obtain ⟨G, cc, rfl⟩ : ∃ G cc, v = .slice (some ⟨G, 0, none⟩) ((dmOf f ls st pt).faces f).length cc := by
    rcases hof.2 with ⟨hv, h0⟩ | ⟨g, cap, cur, hv, _⟩
    · omega
    · exact ⟨g, _, hv⟩
  exact ⟨G, cc, rfl, FsF.of hof hfa, hb⟩

end Go.Proofs.YtbbpockkafbfmaaDoor

/-
  The reference's SameFaces of equal lists (for CodeFaces).
-/
namespace Go.Proofs.YtbbpockkafbfmaaDoor
open Go.RowKit

def SfS (G1 G2 o : Nat) (u0 u1 u2 u3 u4 v0 v1 v2 v3 v4 : Value) (V w' : World) : Prop :=
  w'.cell? ⟨G1, o, none⟩ = some u0 ∧ w'.cell? ⟨G1, o + 1, none⟩ = some u1 ∧ w'.cell? ⟨G1, o + 2, none⟩ = some u2 ∧ w'.cell? ⟨G1, o + 3, none⟩ = some u3 ∧ w'.cell? ⟨G1, o + 4, none⟩ = some u4 ∧
  w'.cell? ⟨G2, o, none⟩ = some v0 ∧ w'.cell? ⟨G2, o + 1, none⟩ = some v1 ∧ w'.cell? ⟨G2, o + 2, none⟩ = some v2 ∧ w'.cell? ⟨G2, o + 3, none⟩ = some v3 ∧ w'.cell? ⟨G2, o + 4, none⟩ = some v4 ∧ Below V.heap.size V w'
theorem SfS.of {G1 G2 o : Nat} {u0 u1 u2 u3 u4 v0 v1 v2 v3 v4 : Value} {V w' : World} (hX : G1 < V.heap.size) (hY : G2 < V.heap.size) (h : SfS G1 G2 o u0 u1 u2 u3 u4 v0 v1 v2 v3 v4 V V) (hw : Below V.heap.size V w') : SfS G1 G2 o u0 u1 u2 u3 u4 v0 v1 v2 v3 v4 V w' := by
  have e1 : ∀ o, w'.cell? ⟨G1, o, none⟩ = V.cell? ⟨G1, o, none⟩ := fun o => hw.cell (p := ⟨G1, o, none⟩) hX
  have e2 : ∀ o, w'.cell? ⟨G2, o, none⟩ = V.cell? ⟨G2, o, none⟩ := fun o => hw.cell (p := ⟨G2, o, none⟩) hY
  unfold SfS at *
  rw [e1, e1, e1, e1, e1, e2, e2, e2, e2, e2]
  obtain ⟨h0, h1, h2, h3, h4, h5, h6, h7, h8, h9, _⟩ := h
  exact ⟨h0, h1, h2, h3, h4, h5, h6, h7, h8, h9, hw⟩
theorem SfS.last {G1 G2 o : Nat} {u0 u1 u2 u3 u4 v0 v1 v2 v3 v4 : Value} {V w' : World} (h : SfS G1 G2 o u0 u1 u2 u3 u4 v0 v1 v2 v3 v4 V w') : Below V.heap.size V w' := h.2.2.2.2.2.2.2.2.2.2

def SfK (X Y b1 o1 b2 o2 : Nat) (u v p1 p2 : Value) (V w' : World) : Prop :=
  w'.cell? ⟨X, 2, none⟩ = some u ∧ w'.cell? ⟨Y, 2, none⟩ = some v ∧ w'.cell? ⟨b1, o1, none⟩ = some p1 ∧ w'.cell? ⟨b1, o1 + 1, none⟩ = some p2 ∧ w'.cell? ⟨b2, o2, none⟩ = some p1 ∧ w'.cell? ⟨b2, o2 + 1, none⟩ = some p2 ∧ Below V.heap.size V w'
theorem SfK.of {X Y b1 o1 b2 o2 : Nat} {u v p1 p2 : Value} {V w' : World} (hX : X < V.heap.size) (hY : Y < V.heap.size) (h1 : b1 < V.heap.size) (h2 : b2 < V.heap.size) (h : SfK X Y b1 o1 b2 o2 u v p1 p2 V V) (hw : Below V.heap.size V w') : SfK X Y b1 o1 b2 o2 u v p1 p2 V w' :=
  ⟨(hw.cell (p := ⟨X, 2, none⟩) hX).trans h.1, (hw.cell (p := ⟨Y, 2, none⟩) hY).trans h.2.1, (hw.cell (p := ⟨b1, o1, none⟩) h1).trans h.2.2.1, (hw.cell (p := ⟨b1, o1 + 1, none⟩) h1).trans h.2.2.2.1, (hw.cell (p := ⟨b2, o2, none⟩) h2).trans h.2.2.2.2.1, (hw.cell (p := ⟨b2, o2 + 1, none⟩) h2).trans h.2.2.2.2.2.1, hw⟩
def SfT (X Y : Nat) (u0 u1 u2 u3 u4 v0 v1 v2 v3 v4 : Value) (V w' : World) : Prop :=
  w'.cell? ⟨X, 0, none⟩ = some u0 ∧ w'.cell? ⟨X, 1, none⟩ = some u1 ∧ w'.cell? ⟨X, 2, none⟩ = some u2 ∧ w'.cell? ⟨X, 3, none⟩ = some u3 ∧ w'.cell? ⟨X, 4, none⟩ = some u4 ∧
  w'.cell? ⟨Y, 0, none⟩ = some v0 ∧ w'.cell? ⟨Y, 1, none⟩ = some v1 ∧ w'.cell? ⟨Y, 2, none⟩ = some v2 ∧ w'.cell? ⟨Y, 3, none⟩ = some v3 ∧ w'.cell? ⟨Y, 4, none⟩ = some v4 ∧ Below V.heap.size V w'
theorem SfT.of {X Y : Nat} {u0 u1 u2 u3 u4 v0 v1 v2 v3 v4 : Value} {V w' : World} (hX : X < V.heap.size) (hY : Y < V.heap.size) (h : SfT X Y u0 u1 u2 u3 u4 v0 v1 v2 v3 v4 V V) (hw : Below V.heap.size V w') : SfT X Y u0 u1 u2 u3 u4 v0 v1 v2 v3 v4 V w' := by
  have e1 : ∀ o, w'.cell? ⟨X, o, none⟩ = V.cell? ⟨X, o, none⟩ := fun o => hw.cell (p := ⟨X, o, none⟩) hX
  have e2 : ∀ o, w'.cell? ⟨Y, o, none⟩ = V.cell? ⟨Y, o, none⟩ := fun o => hw.cell (p := ⟨Y, o, none⟩) hY
  unfold SfT at *
  rw [e1, e1, e1, e1, e1, e2, e2, e2, e2, e2]
  obtain ⟨h0, h1, h2, h3, h4, h5, h6, h7, h8, h9, _⟩ := h
  exact ⟨h0, h1, h2, h3, h4, h5, h6, h7, h8, h9, hw⟩
theorem SfT.last {X Y : Nat} {u0 u1 u2 u3 u4 v0 v1 v2 v3 v4 : Value} {V w' : World} (h : SfT X Y u0 u1 u2 u3 u4 v0 v1 v2 v3 v4 V w') : Below V.heap.size V w' := h.2.2.2.2.2.2.2.2.2.2

set_option maxHeartbeats 8000000 in
set_option maxRecDepth 100000 in
theorem sameFaces_yes (G1 c1 G2 c2 : Nat) (L : List FaceM) (w : World) (h1 : FsF w G1 L) (h2 : FsF w G2 L) (hn : L.length ≤ 4000) (hb : ∀ M, M ∈ L → M.darts.length ≤ 4000 ∧ M.places.length ≤ 400000 ∧ M.fingers.length ≤ 400000) :
    Calls Tryd.prog 15 #[.slice (some ⟨G1, 0, none⟩) L.length c1, .slice (some ⟨G2, 0, none⟩) L.length c2] w fun e w' => e = .returned (.bool true) ∧ Below w.heap.size w w' := by
  obtain ⟨N, hN⟩ : ∃ N, L.length = N := ⟨_, rfl⟩
  rw [hN] at hn ⊢
  have HF1 := Lib.hid h1
  have HF2 := Lib.hid h2
  have HBD := Lib.hid hb
  have HNE := Lib.hid hN
  clear h1 h2 hb hN
  go_enter Tryd.func15, Tryd.ntmps15
  go_wp2_with fail
  go_loopw [5] (fun iv wr => ∃ j : Nat, j ≤ N ∧ iv = .int .i64 (j : Int) ∧ Below w.heap.size w wr) (fun iv _ => N - (intOf iv).toNat)
  case atStart => exact ⟨0, Nat.zero_le _, rfl, Below.refl _ _⟩
  case round =>
    obtain ⟨j, hj, rfl, hb⟩ := hrel
    have HB := Lib.hid hb
    clear hb
    by_cases hlt : j < N
    · have hji : (j : Int) < N := by omega
      obtain ⟨M, hM⟩ : ∃ M, L[j]? = some M := ⟨_, List.getElem?_eq_getElem (by rw [HNE.out]; exact hlt)⟩
      have hbd := HBD.out M (List.mem_of_getElem? hM)
      have k1 := (HF1.out.below HB.out)
      have k2 := (HF2.out.below HB.out)
      have hG1 := k1.1
      have hG2 := k2.1
      obtain ⟨A1, d1, A2, d2, A3, d3, x0, x1, x2, x3, x4, s1, s2, s3⟩ := k1.2 j M hM
      obtain ⟨B1, e1, B2, e2, B3, e3, y0, y1, y2, y3, y4, t1, t2, t3⟩ := k2.2 j M hM
      obtain ⟨ab, hab⟩ : ∃ y, M.above = y := ⟨_, rfl⟩
      obtain ⟨ou, hou⟩ : ∃ y, M.outer = y := ⟨_, rfl⟩
      obtain ⟨ps, hps⟩ : ∃ y, M.places = y := ⟨_, rfl⟩
      obtain ⟨fs, hfs⟩ : ∃ y, M.fingers = y := ⟨_, rfl⟩
      obtain ⟨ds, hds⟩ : ∃ y, M.darts = y := ⟨_, rfl⟩
      rw [hab] at x0 y0
      rw [hds] at x1 y1 s1 t1 hbd
      rw [hps] at x2 y2 s2 t2 hbd
      rw [hfs] at x3 y3 s3 t3 hbd
      rw [hou] at x4 y4
      have HSL := Lib.hid (And.intro s1 (And.intro t1 (And.intro s2 (And.intro t2 (And.intro s3 t3)))))
      have HS0 : Hid (SfS G1 G2 (j * 5) (.bool ab) (.slice A1 ds.length d1) (.slice A2 ps.length d2) (.slice A3 fs.length d3) (.bool ou) (.bool ab) (.slice B1 ds.length e1) (.slice B2 ps.length e2) (.slice B3 fs.length e3) (.bool ou) wr wr) :=
        ⟨x0, x1, x2, x3, x4, y0, y1, y2, y3, y4, Below.refl _ _⟩
      have hb1 := hbd.1
      have hb2 := hbd.2.1
      have hb3 := hbd.2.2
      clear k1 k2 x0 x1 x2 x3 x4 y0 y1 y2 y3 y4 s1 t1 s2 t2 s3 t3 hM hab hou hps hfs hds hbd
      go_wp2_with fail
      go_region_held3 (fun w' => w'.cell? ⟨G1, j * 5, none⟩ = some (.bool ab) ∧ w'.cell? ⟨G1, j * 5 + 1, none⟩ = some (.slice A1 ds.length d1) ∧ w'.cell? ⟨G1, j * 5 + 2, none⟩ = some (.slice A2 ps.length d2) ∧ w'.cell? ⟨G1, j * 5 + 3, none⟩ = some (.slice A3 fs.length d3) ∧ w'.cell? ⟨G1, j * 5 + 4, none⟩ = some (.bool ou) ∧
          w'.cell? ⟨G2, j * 5, none⟩ = some (.bool ab) ∧ w'.cell? ⟨G2, j * 5 + 1, none⟩ = some (.slice B1 ds.length e1) ∧ w'.cell? ⟨G2, j * 5 + 2, none⟩ = some (.slice B2 ps.length e2) ∧ w'.cell? ⟨G2, j * 5 + 3, none⟩ = some (.slice B3 fs.length e3) ∧ w'.cell? ⟨G2, j * 5 + 4, none⟩ = some (.bool ou) ∧ Below wr.heap.size wr w')
        (exact SfS.of hG1 hG2 HS0.out (by repeat (first | exact Below.refl _ _ | refine Below.drew ?_ | refine Below.alloc ?_ (by simp; try omega) _)))
        (fail)
      obtain ⟨W2, hW2⟩ : ∃ W2, W2 = ((wr.alloc (.cells #[.bool ab, .slice A1 ds.length d1, .slice A2 ps.length d2, .slice A3 fs.length d3, .bool ou] 45)).alloc (.cells #[.bool ab, .slice B1 ds.length e1, .slice B2 ps.length e2, .slice B3 fs.length e3, .bool ou] 45)).drew := ⟨_, rfl⟩
      obtain ⟨m1, m2, m3⟩ := two_d wr _ _ W2 hW2
      obtain ⟨Y, hZ2⟩ : ∃ Y, wr.heap.size + 1 = Y := ⟨_, rfl⟩
      obtain ⟨X, hZ1⟩ : ∃ X, wr.heap.size = X := ⟨_, rfl⟩
      rw [← hW2, hZ2, hZ1]
      rw [hZ1] at m1
      rw [hZ2] at m2
      have HMX := Lib.hid m1
      have HMY := Lib.hid m2
      have HM3 := Lib.hid m3
      clear hW2 hZ1 hZ2 m1 m2 m3
      rotate_left
      obtain ⟨W2, hW2⟩ : ∃ W2, W2 = ((wr.alloc (.cells #[.bool ab, .slice B1 ds.length e1, .slice B2 ps.length e2, .slice B3 fs.length e3, .bool ou] 45)).alloc (.cells #[.bool ab, .slice A1 ds.length d1, .slice A2 ps.length d2, .slice A3 fs.length d3, .bool ou] 45)).drew := ⟨_, rfl⟩
      obtain ⟨m1, m2, m3⟩ := two_d wr _ _ W2 hW2
      obtain ⟨X, hZ2⟩ : ∃ Y, wr.heap.size + 1 = Y := ⟨_, rfl⟩
      obtain ⟨Y, hZ1⟩ : ∃ X, wr.heap.size = X := ⟨_, rfl⟩
      rw [← hW2, hZ2, hZ1]
      rw [hZ1] at m1
      rw [hZ2] at m2
      have HMX := Lib.hid m2
      have HMY := Lib.hid m1
      have HM3 := Lib.hid m3
      clear hW2 hZ1 hZ2 m1 m2 m3
      all_goals
        have hXs : X < W2.heap.size := by
          rcases Nat.lt_or_ge X W2.heap.size with q | q
          · exact q
          · have h := HMX.out; rw [Array.getElem?_eq_none q] at h; cases h
        have hYs : Y < W2.heap.size := by
          rcases Nat.lt_or_ge Y W2.heap.size with q | q
          · exact q
          · have h := HMY.out; rw [Array.getElem?_eq_none q] at h; cases h
        have HT : Hid (SfT X Y (.bool ab) (.slice A1 ds.length d1) (.slice A2 ps.length d2) (.slice A3 fs.length d3) (.bool ou) (.bool ab) (.slice B1 ds.length e1) (.slice B2 ps.length e2) (.slice B3 fs.length e3) (.bool ou) W2 W2) := ⟨Lib.cell_of_heap HMX.out 0, Lib.cell_of_heap HMX.out 1, Lib.cell_of_heap HMX.out 2, Lib.cell_of_heap HMX.out 3, Lib.cell_of_heap HMX.out 4, Lib.cell_of_heap HMY.out 0, Lib.cell_of_heap HMY.out 1, Lib.cell_of_heap HMY.out 2, Lib.cell_of_heap HMY.out 3, Lib.cell_of_heap HMY.out 4, Below.refl _ _⟩
        have HE1 : Hid (∀ W, Below W2.heap.size W2 W → Calls Tryd.prog 10 #[.slice A1 ds.length d1, .slice B1 ds.length e1] W fun e w' => e = .returned (.bool true) ∧ Below W.heap.size W w') := fun W hW => by
          have hb := HM3.out.trans (hW.mono HM3.out.size)
          have h := equalI_calls A1 B1 ds.length d1 ds.length e1 ds ds W (HSL.out.1.below hb) (HSL.out.2.1.below hb) (by unfold maxLen; omega)
          rw [decide_eq_true rfl] at h
          exact h
        have HE3 : Hid (∀ W, Below W2.heap.size W2 W → Calls Tryd.prog 10 #[.slice A3 fs.length d3, .slice B3 fs.length e3] W fun e w' => e = .returned (.bool true) ∧ Below W.heap.size W w') := fun W hW => by
          have hb := HM3.out.trans (hW.mono HM3.out.size)
          have h := equalI_calls A3 B3 fs.length d3 fs.length e3 fs fs W (HSL.out.2.2.2.2.1.below hb) (HSL.out.2.2.2.2.2.below hb) (by unfold maxLen; omega)
          rw [decide_eq_true rfl] at h
          exact h
        clear HS0
        obtain ⟨x0, x1, x2, x3, x4, y0, y1, y2, y3, y4, _⟩ := HT.out
        go_wp2_with (first
          | (go_at_call 10; (with_reducible refine (HE1.out _ ?hbx).mono ?_); (case hbx => exact Below.refl _ _); rintro e w5 ⟨rfl, hbw⟩; have HT5 := Lib.hid (SfT.of hXs hYs HT.out hbw); clear x0 x1 x2 x3 x4 y0 y1 y2 y3 y4 hbw; obtain ⟨x0, x1, x2, x3, x4, y0, y1, y2, y3, y4, _⟩ := HT5.out)
          | (go_at_call 10; (with_reducible refine (HE3.out _ ?hbx).mono ?_); (case hbx => exact HT5.out.last); rintro e w6 ⟨rfl, hbw⟩; have HT6 := Lib.hid (SfT.of hXs hYs HT.out (HT5.out.last.trans (hbw.mono HT5.out.last.size))); clear x0 x1 x2 x3 x4 y0 y1 y2 y3 y4 hbw; obtain ⟨x0, x1, x2, x3, x4, y0, y1, y2, y3, y4, _⟩ := HT6.out))
        clear x0 x1 x2 x3 x4 y0 y1 y2 y3 y4
        go_loopw [8] (fun kv w' => ∃ k : Nat, k ≤ ps.length ∧ kv = .int .i64 (k : Int) ∧ Below W2.heap.size W2 w') (fun kv _ => ps.length - (intOf kv).toNat)
        case atStart => exact ⟨0, Nat.zero_le _, rfl, HT6.out.last⟩
        case round =>
          obtain ⟨k, hk, rfl, hb⟩ := hrel
          rename World => wk
          have HBK := Lib.hid hb
          have HT7 := Lib.hid (SfT.of hXs hYs HT.out hb)
          clear hb
          obtain ⟨x0, x1, x2, x3, x4, y0, y1, y2, y3, y4, _⟩ := HT7.out
          by_cases hkp : k < ps.length
          · have hki : (k : Int) < ps.length := by omega
            obtain ⟨pp, hp⟩ : ∃ p, ps[k]? = some p := ⟨_, List.getElem?_eq_getElem hkp⟩
            have hbw := HM3.out.trans (HBK.out.mono HM3.out.size)
            obtain ⟨b1, o1, rfl, hk1, c0, c1'⟩ := (HSL.out.2.2.1.below hbw).2 k pp hp
            obtain ⟨b2, o2, rfl, hk2, d0, d1'⟩ := (HSL.out.2.2.2.1.below hbw).2 k pp hp
            obtain ⟨p1, p2⟩ := pp
            have hXk : X < wk.heap.size := Nat.lt_of_lt_of_le hXs HBK.out.size
            have hYk : Y < wk.heap.size := Nat.lt_of_lt_of_le hYs HBK.out.size
            have HKK : Hid (SfK X Y b1 (o1 + k * 2) b2 (o2 + k * 2) (.slice (some ⟨b1, o1, none⟩) ps.length d2) (.slice (some ⟨b2, o2, none⟩) ps.length e2) (.int .i64 p1) (.int .i64 p2) wk wk) := ⟨x2, y2, c0, c1', d0, d1', Below.refl _ _⟩
            clear hp hbw c0 c1' d0 d1'
            go_wp2_with fail
            clear x0 x1 x2 x3 x4 y0 y1 y2 y3 y4
            go_region_held3 (fun w' => w'.cell? ⟨X, 2, none⟩ = some (.slice (some ⟨b1, o1, none⟩) ps.length d2) ∧ w'.cell? ⟨Y, 2, none⟩ = some (.slice (some ⟨b2, o2, none⟩) ps.length e2) ∧ w'.cell? ⟨b1, o1 + k * 2, none⟩ = some (.int .i64 p1) ∧ w'.cell? ⟨b1, o1 + k * 2 + 1, none⟩ = some (.int .i64 p2) ∧ w'.cell? ⟨b2, o2 + k * 2, none⟩ = some (.int .i64 p1) ∧ w'.cell? ⟨b2, o2 + k * 2 + 1, none⟩ = some (.int .i64 p2) ∧ Below wk.heap.size wk w')
              (exact SfK.of hXk hYk hk1 hk2 HKK.out (Below.refl _ _).drew)
              (fail)
            have HBD2 : Hid (Below W2.heap.size W2 wk.drew) := HBK.out.drew
            go_wp2_with fail
            go_roundw
            case rel => exact ⟨k + 1, by omega, by rw [Int.natCast_add]; rfl, HBD2.out⟩
            case measure => simp [intOf]; omega
          · obtain rfl : k = ps.length := by omega
            go_wp2_with fail
            go_roundw
            case rel => exact ⟨j + 1, by omega, by rw [Int.natCast_add]; rfl, HB.out.trans ((HM3.out.trans (HBK.out.mono HM3.out.size)).mono HB.out.size)⟩
            case measure => simp [intOf]; omega
    · obtain rfl : j = N := by omega
      go_wp2_with fail
      go_ret
      exact ⟨rfl, HB.out⟩

end Go.Proofs.YtbbpockkafbfmaaDoor
