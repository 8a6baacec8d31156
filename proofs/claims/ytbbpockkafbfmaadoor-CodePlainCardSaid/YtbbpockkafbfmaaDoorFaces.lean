/-
  CloneC Face Faces, one after the other.
-/
import Derived.Test.YtbbpockkafbfmaaDoorMeet
import Derived.Test.YtbbpockkafbfmaaDoorShelf
import Derived.Deep.DeepCutAuto

/-
  slices.Clone of integers, over what the call owns.
-/
namespace Go.Proofs.YtbbpockkafbfmaaDoor
open Go.RowKit

theorem cloneZ_calls (b off n c : Nat) (xs : List Int) (w : World) (h : SL w (some ⟨b, off, none⟩) n xs) (hp : 0 < n) (hn : n ≤ 100000) :
    Calls Tryd.prog 60 #[.slice (some ⟨b, off, none⟩) n c] w fun e w' => ∃ v, e = .returned v ∧ OwnZ w' w.heap.size v xs ∧ Below w.heap.size w w' := by
  have hl := h.1
  obtain ⟨b', off', hA, hb, hc⟩ := h.2 hp
  obtain ⟨rfl, rfl⟩ : b = b' ∧ off = off' := by injection hA with hA; injection hA with e1 e2; exact ⟨e1, e2⟩
  refine (Tryd.slices_Clone_int b off n c xs w (by omega) (by omega) (fun j hj => by rw [List.getD_eq_getElem?_getD]; exact hc j (by omega))).mono ?_
  rintro e w' ⟨v, rfl, ho, _, hb⟩
  refine ⟨v, rfl, ?_, hb⟩
  rw [List.take_of_length_le (by omega)] at ho
  unfold OwnZ
  rw [hl]
  exact ho

end Go.Proofs.YtbbpockkafbfmaaDoor

/-
  The walk of face: the description of one face.
-/
namespace Go.Proofs.YtbbpockkafbfmaaDoor
open Go.RowKit

theorem own_base {w : World} {B B' : Nat} {T : TypeId} {sz n : Nat} {v : Value} {xs : List Value} (h : w.ownsRow B' T sz v n xs) (hB : B ≤ B') : w.ownsRow B T sz v n xs := by
  refine ⟨h.1, ?_⟩
  rcases h.2 with hn | ⟨g, cap, cur, hv, hg, r⟩
  · exact .inl hn
  · exact .inr ⟨g, cap, cur, hv, Nat.le_trans hB hg, r⟩
theorem FMem.new {B B' : Nat} {w0 w2 : World} {u : Bool} {dv : Value} {ds : List Int} (hb : Below B w0 w2) (ho : OwnZ w2 B' dv ds) (hB : B ≤ B') (h2 : B ≤ w2.heap.size) :
    FMem B w0 w2.heap.size u false dv (.slice none 0 0) (.slice none 0 0) ds [] [] (w2.alloc (.cells #[.bool u, dv, .slice none 0 0, .slice none 0 0, .bool false] 45)) := by
  have hlt := fun g (e : dv.ownBlock = some g) => (World.ownsRow.lt ho g e).2
  have hn : ∀ v g, Value.ownBlock (.slice none 0 0) = some g → v = some g → False := fun v g e _ => by simp [Value.ownBlock] at e
  exact ⟨heap_alloc_new w2 _, OwnZ.below (own_base ho hB) ((Below.refl _ _).alloc (Nat.le_refl _) _), World.ownsRow_nil _ _ _ _, World.ownsRow_nil _ _ _ _, fun e => by have := hlt _ e; omega, by simp [Value.ownBlock], by simp [Value.ownBlock],
    fun g _ e => by simp [Value.ownBlock] at e, fun g _ e => by simp [Value.ownBlock] at e, fun g e => by simp [Value.ownBlock] at e, h2, hb.alloc h2 _⟩
theorem FMem.new2 {B B' F : Nat} {w0 w2 : World} {u : Bool} {dv a0 a1 a2 a3 a4 : Value} {ds : List Int} (hb : Below B w0 w2) (ho : OwnZ w2 B' dv ds) (hB : B ≤ F) (hF : F < B') (hh : w2.heap[F]? = some (.cells #[a0, a1, a2, a3, a4] 45 (0, 0))) :
    FMem B w0 F u false dv (.slice none 0 0) (.slice none 0 0) ds [] [] (((((w2.setCell ⟨F, 0, none⟩ (.bool u)).setCell ⟨F, 1, none⟩ dv).setCell ⟨F, 2, none⟩ (.slice none 0 0)).setCell ⟨F, 3, none⟩ (.slice none 0 0)).setCell ⟨F, 4, none⟩ (.bool false)) := by
  have hge := fun g (e : dv.ownBlock = some g) => (World.ownsRow.lt ho g e).1
  have hk : ∀ q, q ≠ F → (((((w2.setCell ⟨F, 0, none⟩ (.bool u)).setCell ⟨F, 1, none⟩ dv).setCell ⟨F, 2, none⟩ (.slice none 0 0)).setCell ⟨F, 3, none⟩ (.slice none 0 0)).setCell ⟨F, 4, none⟩ (.bool false)).heap[q]? = w2.heap[q]? := fun q hq =>
    (Below.heap_setCell _ _ _ q hq).trans ((Below.heap_setCell _ _ _ q hq).trans ((Below.heap_setCell _ _ _ q hq).trans ((Below.heap_setCell _ _ _ q hq).trans (Below.heap_setCell _ _ _ q hq))))
  refine ⟨?_, own_kept2 (own_base ho (by omega)) (fun g e => hk g (by have := hge g e; omega)), World.ownsRow_nil _ _ _ _, World.ownsRow_nil _ _ _ _, fun e => by have := hge _ e; omega, by simp [Value.ownBlock], by simp [Value.ownBlock],
    fun g _ e => by simp [Value.ownBlock] at e, fun g _ e => by simp [Value.ownBlock] at e, fun g e => by simp [Value.ownBlock] at e, hB, ?_⟩
  · unfold FaceB
    simp [World.setCell, Array.getElem?_modify, hh]
  · exact ((((hb.setCell (p := ⟨F, 0, none⟩) hB _).setCell (p := ⟨F, 1, none⟩) hB _).setCell (p := ⟨F, 2, none⟩) hB _).setCell (p := ⟨F, 3, none⟩) hB _).setCell (p := ⟨F, 4, none⟩) hB _

/-- The gaps at the end of a dart. -/
def DM.gaps (D : DM) (ab : Bool) (d : Nat) : List Nat :=
  match D.ls[endM D.n d]? with
  | some l => if l.kind = 1 then gapsM D.m (D.sp.getD (endM D.n d) 0) ab else []
  | none => []
structure FaceM where
  above : Bool
  darts : List Int
  places : List (Int × Int)
  fingers : List Int
  outer : Bool
def DM.fps (D : DM) (f : Int) (ab : Bool) (gs : List Nat) : List (Int × Int) := gs.flatMap fun g => meetP ab (gapPlaces f D.ls D.ax D.m g)
def DM.fzs (D : DM) (f : Int) (ab : Bool) (gs : List Nat) : List Int := gs.flatMap fun g => meetZ ab (gapFingers f D.ls D.ax D.m g)
def DM.face (D : DM) (f : Int) (ds : List Nat) : FaceM :=
  let ab := D.ab.getD (ds.headD 0 / 2) false
  ⟨ab, ds.map Int.ofNat, ds.flatMap fun d => D.fps f ab (D.gaps ab d), ds.flatMap fun d => D.fzs f ab (D.gaps ab d), ds.any fun d => decide ((D.gaps ab d).length = 2)⟩

def FaceS (P b off bA oA na ca : Nat) (d0 g0 : Nat) (u : Bool) (W w' : World) : Prop :=
  w'.cell? ⟨P, 2, none⟩ = some (.slice (some ⟨bA, oA, none⟩) na ca) ∧ w'.cell? ⟨b, off, none⟩ = some (.int .i64 (d0 : Int)) ∧ w'.cell? ⟨bA, oA + g0, none⟩ = some (.bool u) ∧ Below W.heap.size W w'
theorem FaceS.of {P b off bA oA na ca : Nat} {d0 g0 : Nat} {u : Bool} {W w' : World} (hP : P < W.heap.size) (hb : b < W.heap.size) (hA : bA < W.heap.size) (h1 : W.cell? ⟨P, 2, none⟩ = some (.slice (some ⟨bA, oA, none⟩) na ca))
    (h2 : W.cell? ⟨b, off, none⟩ = some (.int .i64 (d0 : Int))) (h3 : W.cell? ⟨bA, oA + g0, none⟩ = some (.bool u)) (hw : Below W.heap.size W w') : FaceS P b off bA oA na ca d0 g0 u W w' :=
  ⟨(hw.cell (p := ⟨P, 2, none⟩) hP).trans h1, (hw.cell (p := ⟨b, off, none⟩) hb).trans h2, (hw.cell (p := ⟨bA, oA + g0, none⟩) hA).trans h3, hw⟩
theorem newFace {x w2 : World} {a0 a1 a2 a3 a4 : Value} {T : TypeId} (hb : Below (x.alloc (.cells #[a0, a1, a2, a3, a4] T)).drew.heap.size (x.alloc (.cells #[a0, a1, a2, a3, a4] T)).drew w2) :
    w2.cell? ⟨x.heap.size, 0, none⟩ = some a0 ∧ w2.cell? ⟨x.heap.size, 1, none⟩ = some a1 ∧ w2.cell? ⟨x.heap.size, 2, none⟩ = some a2 ∧ w2.cell? ⟨x.heap.size, 3, none⟩ = some a3 ∧ w2.cell? ⟨x.heap.size, 4, none⟩ = some a4 ∧
      w2.frozen? ⟨x.heap.size, 0, none⟩ = false ∧ w2.frozen? ⟨x.heap.size, 1, none⟩ = false ∧ w2.frozen? ⟨x.heap.size, 2, none⟩ = false ∧ w2.frozen? ⟨x.heap.size, 3, none⟩ = false ∧ w2.frozen? ⟨x.heap.size, 4, none⟩ = false := by
  have h := (hb.block x.heap.size (by show x.heap.size < (x.alloc _).heap.size; simp)).trans (heap_alloc_new x _)
  have hf : ∀ k, w2.frozen? ⟨x.heap.size, k, none⟩ = false := fun k => by simp [World.frozen?, h]
  exact ⟨Lib.cell_of_heap h 0, Lib.cell_of_heap h 1, Lib.cell_of_heap h 2, Lib.cell_of_heap h 3, Lib.cell_of_heap h 4, hf 0, hf 1, hf 2, hf 3, hf 4⟩
theorem FaceS.last {P b off bA oA na ca : Nat} {d0 g0 : Nat} {u : Bool} {W w' : World} (h : FaceS P b off bA oA na ca d0 g0 u W w') : Below W.heap.size W w' := h.2.2.2

theorem FMem.setO {B : Nat} {w0 w : World} {F : Nat} {ab o : Bool} {dv pv fv : Value} {ds fs : List Int} {ps : List (Int × Int)} (h : FMem B w0 F ab o dv pv fv ds ps fs w) (v : Bool) : FMem B w0 F ab v dv pv fv ds ps fs (w.setCell ⟨F, 4, none⟩ (.bool v)) := by
  obtain ⟨h1, h2, h3, h4, h5, h6, h7, h8, h9, h10, h11, h12⟩ := h
  have hk : ∀ q, q ≠ F → (w.setCell ⟨F, 4, none⟩ (.bool v)).heap[q]? = w.heap[q]? := fun q hq => Below.heap_setCell _ _ _ q hq
  exact ⟨h1.setO v, own_kept2 h2 (fun g e => hk g (fun c => h5 (by rw [← c]; exact e))), own_kept2 h3 (fun g e => hk g (fun c => h6 (by rw [← c]; exact e))), own_kept2 h4 (fun g e => hk g (fun c => h7 (by rw [← c]; exact e))), h5, h6, h7, h8, h9, h10, h11, h12.setCell (p := ⟨F, 4, none⟩) h11 _⟩
/-- What face leaves. -/
def FacePost (M : FaceM) (w : World) (e : Ending) (w' : World) : Prop :=
  ∃ dv pv fv, e = .returned (.agg #[.bool M.above, dv, pv, fv, .bool M.outer]) ∧ OwnZ w' w.heap.size dv M.darts ∧ OwnP w' w.heap.size pv M.places ∧ OwnZ w' w.heap.size fv M.fingers ∧ Below w.heap.size w w'
def FcRel (D : DM) (f : Int) (u : Bool) (ds : List Nat) (nd : Nat) (W : World) (F : Nat) (dv iv : Value) (wr : World) : Prop :=
  ∃ (j : Nat) (o : Bool) (pv fv : Value), j ≤ nd ∧ iv = .int .i64 (j : Int) ∧ o = ((ds.take j).any fun d => decide ((D.gaps u d).length = 2)) ∧
    ((ds.take j).flatMap fun d => D.fps f u (D.gaps u d)).length ≤ 100 * j ∧ ((ds.take j).flatMap fun d => D.fzs f u (D.gaps u d)).length ≤ 100 * j ∧
    FMem W.heap.size W F u o dv pv fv (ds.map Int.ofNat) ((ds.take j).flatMap fun d => D.fps f u (D.gaps u d)) ((ds.take j).flatMap fun d => D.fzs f u (D.gaps u d)) wr
def FgRel (D : DM) (f : Int) (u o : Bool) (gs : List Nat) (ps0 : List (Int × Int)) (fs0 : List Int) (dsI : List Int) (W : World) (F g : Nat) (dv iv : Value) (wr : World) : Prop :=
  ∃ (j : Nat) (pv fv : Value), j ≤ gs.length ∧ iv = .int .i64 (j : Int) ∧ (D.fps f u (gs.take j)).length ≤ 41 * j ∧ (D.fzs f u (gs.take j)).length ≤ 41 * j ∧
    FMem W.heap.size W F u o dv pv fv dsI (ps0 ++ D.fps f u (gs.take j)) (fs0 ++ D.fzs f u (gs.take j)) wr ∧
    OwnV wr g 3 (.slice (some ⟨g, 0, none⟩) gs.length gs.length) (gs.map intV) ∧ g ≠ F ∧ pv.ownBlock ≠ some g ∧ fv.ownBlock ≠ some g
theorem flat_snoc {α β : Type} (h : α → List β) (l : List α) (x : α) : (l ++ [x]).flatMap h = l.flatMap h ++ h x := by simp
theorem DM.fps_snoc (D : DM) (f : Int) (u : Bool) (l : List Nat) (x : Nat) : D.fps f u (l ++ [x]) = D.fps f u l ++ meetP u (gapPlaces f D.ls D.ax D.m x) := by unfold DM.fps; simp
theorem DM.fzs_snoc (D : DM) (f : Int) (u : Bool) (l : List Nat) (x : Nat) : D.fzs f u (l ++ [x]) = D.fzs f u l ++ meetZ u (gapFingers f D.ls D.ax D.m x) := by unfold DM.fzs; simp
theorem gap_len {f : Int} {ls : List Lt} {ax : List Nat} {m s : Nat} (u : Bool) (hf : f ≤ 40) (hg : ∀ l, l ∈ ls → 0 ≤ l.gate ∧ l.gate ≤ f) : (meetP u (gapPlaces f ls ax m s)).length ≤ 41 ∧ (meetZ u (gapFingers f ls ax m s)).length ≤ 41 := by
  have h1 := gapTo_le (ls := ls) (ax := ax) (m := m) (s := s) hf hg
  have h2 := gapFrom_ge (ls := ls) (ax := ax) (s := s) hg
  have h3 : (gapFingers f ls ax m s).length ≤ 40 := by unfold gapFingers; rw [upFrom_len]; omega
  have h4 : (gapPlaces f ls ax m s).length ≤ 41 := by unfold gapPlaces; rw [List.length_cons, List.length_map]; omega
  cases u
  · exact ⟨by unfold meetP; simpa using h4, by unfold meetZ; simp; omega⟩
  · exact ⟨h4, by unfold meetZ; simp; omega⟩

set_option maxHeartbeats 40000000 in
set_option maxRecDepth 100000 in
theorem face_calls {D : DM} (k : D.ok) {w : World} {P : Nat} {f : Int} {A Aa Ax As Ao : Option Addr} {c ca cx cs co : Nat} (h : DMem D w P f A Aa Ax As Ao c ca cx cs co) (hf : f ≤ 40) (hg : ∀ l, l ∈ D.ls → 0 ≤ l.gate ∧ l.gate ≤ f)
    (b off nd cd : Nat) (ds : List Nat) (hd : SL w (some ⟨b, off, none⟩) nd (ds.map Int.ofNat)) (hnd : 0 < nd) (hnb : nd ≤ 2000) (hdb : ∀ d, d ∈ ds → d < 2 * D.n) :
    Calls Tryd.prog 45 #[.pointer (some ⟨P, 0, none⟩), .slice (some ⟨b, off, none⟩) nd cd] w (FacePost (D.face f ds) w) := by
  have HK := Lib.hid k
  have hkn := k.n1
  have HM := Lib.hid h
  have HDS := Lib.hid hd
  obtain ⟨hP, p0, p1, p2, p3, p4, p5⟩ := h.1
  obtain ⟨b', off', x0, hA0, hbb0, hx0, cx0⟩ := hd.at_ (k := 0) hnd
  obtain ⟨rfl, rfl⟩ : b = b' ∧ off = off' := by injection hA0 with hA0; injection hA0 with e1 e2; exact ⟨e1, e2⟩
  obtain ⟨d0, hd0, rfl⟩ : ∃ d0 : Nat, ds[0]? = some d0 ∧ x0 = (d0 : Int) := by
    rw [List.getElem?_map] at hx0
    cases hh : ds[0]? with
    | none => rw [hh] at hx0; cases hx0
    | some y => rw [hh] at hx0; injection hx0 with hx0; exact ⟨y, rfl, hx0.symm⟩
  rw [Nat.add_zero] at cx0
  have hd0b := hdb d0 (List.mem_of_getElem? hd0)
  obtain ⟨g0, hg0⟩ : ∃ g, d0 / 2 = g := ⟨_, rfl⟩
  have e3 : (d0 : Int) / 2 = (g0 : Int) := by omega
  have e4 : (d0 : Int).tdiv 2 = (g0 : Int) := by rw [Int.tdiv_eq_ediv_of_nonneg (by omega)]; exact e3
  obtain ⟨n, hnn⟩ : ∃ n, D.n = n := ⟨_, rfl⟩
  have hab := h.2.2.1
  rw [hnn] at p1 p2 p4 p5 hd0b hab hkn
  obtain ⟨bA, oA, u, hAa, hbA, hu, cu⟩ := hab.at_ (k := g0) (by omega)
  subst hAa
  have hgi : (g0 : Int) < n := by omega
  have hndi : (0 : Int) < nd := by omega
  have HNN := Lib.hid hnn
  have HCL : Hid (∀ W, Below w.heap.size w W → Calls Tryd.prog 60 #[.slice (some ⟨b, off, none⟩) nd cd] W fun e w' => ∃ A' c', e = .returned (.slice A' nd c') ∧ OwnZ w' W.heap.size (.slice A' nd c') (ds.map Int.ofNat) ∧ Below W.heap.size W w') := by
    intro W hb
    have hlen := hd.1
    refine (cloneZ_calls b off nd cd (ds.map Int.ofNat) W (hd.below hb) hnd (by omega)).mono ?_
    rintro e w' ⟨v, rfl, ho, hb'⟩
    obtain ⟨A', c', rfl⟩ := own_form ho
    rw [hlen] at ho ⊢
    exact ⟨A', c', rfl, ho, hb'⟩
  clear h hd hab hnn hx0 k
  go_enter Tryd.func45, Tryd.ntmps45
  go_wp2_with fail
  obtain ⟨W, hW⟩ : ∃ W, W = w.alloc (.cells #[.bool false, .slice none 0 0, .slice none 0 0, .slice none 0 0, .bool false] 45) := ⟨_, rfl⟩
  have HWB : Hid (Below w.heap.size w W) := by rw [hW]; exact (Below.refl _ _).alloc (Nat.le_refl _) _
  have HSZ : Hid (W.heap.size = w.heap.size + 1) := by unfold Hid; rw [hW]; simp
  have HF : Hid (P < W.heap.size ∧ b < W.heap.size ∧ bA < W.heap.size ∧ W.cell? ⟨P, 2, none⟩ = some (.slice (some ⟨bA, oA, none⟩) n ca) ∧ W.cell? ⟨b, off, none⟩ = some (.int .i64 (d0 : Int)) ∧ W.cell? ⟨bA, oA + g0, none⟩ = some (.bool u)) := by
    have hs := HSZ.out
    exact ⟨by omega, by omega, by omega, (HWB.out.cell (p := ⟨P, 2, none⟩) hP).trans p2, (HWB.out.cell (p := ⟨b, off, none⟩) hbb0).trans cx0, (HWB.out.cell (p := ⟨bA, oA + g0, none⟩) hbA).trans cu⟩
  have HRC : Hid (W.heap[w.heap.size]? = some (.cells #[.bool false, .slice none 0 0, .slice none 0 0, .slice none 0 0, .bool false] 45 (0, 0))) := by rw [hW]; exact heap_alloc_new w _
  rw [← hW]
  clear hW p0 p1 p2 p3 p4 p5 cx0 cu hP
  have e5 : IntKind.i64.wrap (g0 : Int) = (g0 : Int) := wrapI (by omega) (by omega)
  have e6 : IntKind.i64.wrap ((d0 : Int).tdiv 2) = (g0 : Int) := by rw [e4]; exact e5
  have e7 : (0 : Int) ≤ (g0 : Int) := by omega
  go_cut [5] (fun fv wx => ∃ F dv, fv = .pointer (some ⟨F, 0, none⟩) ∧ FMem W.heap.size W F u false dv (.slice none 0 0) (.slice none 0 0) (ds.map Int.ofNat) [] [] wx)
  case first =>
    obtain ⟨hP, hb, hA, q1, q2, q3⟩ := HF.out
    go_region_with (first
      | (go_at_call 60; refine (HCL.out _ HWB.out.drew).mono ?_; rintro e w2 ⟨A1, c1, rfl, ho, hbw⟩; have HR := Lib.hid (FMem.new (u := u) ((Below.refl W.heap.size W).drew.trans (hbw.mono (Nat.le_refl _))) ho (Nat.le_refl _) hbw.size); have z1 : P < w2.heap.size := Nat.lt_of_lt_of_le hP hbw.size; have z2 : b < w2.heap.size := Nat.lt_of_lt_of_le hb hbw.size; have z3 : bA < w2.heap.size := Nat.lt_of_lt_of_le hA hbw.size; have r1 := (hbw.cell (p := ⟨P, 2, none⟩) hP).trans q1; have r2 := (hbw.cell (p := ⟨b, off, none⟩) hb).trans q2; have r3 := (hbw.cell (p := ⟨bA, oA + g0, none⟩) hA).trans q3)
      | (go_at_call 60; (refine (HCL.out _ ((HWB.out.alloc HWB.out.size _).drew)).mono ?_; rintro e w2 ⟨A1, c1, rfl, ho, hbw⟩; have HR := Lib.hid (FMem.new2 (u := u) ((((Below.refl W.heap.size W).alloc (Nat.le_refl _) _).drew).trans (hbw.mono (by show W.heap.size ≤ (W.alloc _).heap.size; simp))) ho (Nat.le_refl _) (by show W.heap.size < (W.alloc _).heap.size; simp) ((hbw.block W.heap.size (by show W.heap.size < (W.alloc _).heap.size; simp)).trans (heap_alloc_new W _))); obtain ⟨y0, y1, y2, y3, y4, y5, y6, y7, y8, y9⟩ := newFace hbw; have hsz1 : W.heap.size < w2.heap.size := (by have := hbw.size; simp at this; omega); have hbW : Below W.heap.size W w2 := (((Below.refl W.heap.size W).alloc (Nat.le_refl _) _).drew).trans (hbw.mono (by show W.heap.size ≤ (W.alloc _).heap.size; simp)); have z1 : P < w2.heap.size := Nat.lt_of_lt_of_le hP hbW.size; have z2 : b < w2.heap.size := Nat.lt_of_lt_of_le hb hbW.size; have z3 : bA < w2.heap.size := Nat.lt_of_lt_of_le hA hbW.size; have r1 := (hbW.cell (p := ⟨P, 2, none⟩) hP).trans q1; have r2 := (hbW.cell (p := ⟨b, off, none⟩) hb).trans q2; have r3 := (hbW.cell (p := ⟨bA, oA + g0, none⟩) hA).trans q3)))
    all_goals
      go_wp2_with fail
      go_meet
      case rel => exact ⟨_, _, rfl, HR.out⟩
  case rest =>
    obtain ⟨F, dv, rfl, hfm⟩ := hcut
    have HFM := Lib.hid hfm
    clear hfm
    have hG : Hid (∀ l, l ∈ D.ls → 0 ≤ l.gate ∧ l.gate ≤ f) := hg
    have HST : Hid (FcRel D f u ds nd W F dv (.int .i64 0) wc) := ⟨0, false, _, _, Nat.zero_le _, rfl, rfl, by simp, by simp, HFM.out⟩
    have HLEN : Hid (ds.length = nd) := by have := HDS.out.1; unfold Hid; simpa using this
    have HU : Hid (D.ab.getD (ds.headD 0 / 2) false = u) := by
      unfold Hid
      have e1 : ds.headD 0 = d0 := by
        cases ds with
        | nil => cases hd0
        | cons y ys => injection hd0
      rw [e1, hg0]
      exact getD_of_some hu
    clear hg hd0 hu hg0 hd0b hbA hgi e3 e4 e5 e6 e7
    go_wp2_with fail
    go_loopw [27] (fun iv wr => FcRel D f u ds nd W F dv iv wr) (fun iv _ => nd - (intOf iv).toNat)
    case atStart => exact HST.out
    case round =>
      obtain ⟨j, o, pv, fv, hj, rfl, ho, hl1, hl2, hfm⟩ := hrel
      have HM1 := Lib.hid hfm
      have HO := Lib.hid ho
      have HL := Lib.hid (And.intro hl1 hl2)
      have HBV : Hid (Below W.heap.size W wr) := hfm.2.2.2.2.2.2.2.2.2.2.2
      have HBW : Hid (Below w.heap.size w wr) := HWB.out.trans (HBV.out.mono HWB.out.size)
      obtain ⟨hF, n0, n1, n2, n3, n4, n5⟩ := hfm.1.cell
      clear hfm ho hl1 hl2
      by_cases hlt : j < nd
      · obtain ⟨b', off', x, hA, _, hx, cdd⟩ := (HDS.out.below HBW.out).at_ hlt
        obtain ⟨rfl, rfl⟩ : b = b' ∧ off = off' := by injection hA with hA; injection hA with e1 e2; exact ⟨e1, e2⟩
        obtain ⟨dd, hdd, rfl⟩ : ∃ dd : Nat, ds[j]? = some dd ∧ x = (dd : Int) := by
          rw [List.getElem?_map] at hx
          cases hh : ds[j]? with
          | none => rw [hh] at hx; cases hx
          | some y => rw [hh] at hx; injection hx with hx; exact ⟨y, rfl, hx.symm⟩
        have hddb := hdb dd (List.mem_of_getElem? hdd)
        have HDD := Lib.hid hdd
        have hji : (j : Int) < nd := by omega
        have HMW := Lib.hid (HM.out.below HBW.out)
        obtain ⟨ee, hee⟩ : ∃ ee, endM D.n dd = ee := ⟨_, rfl⟩
        have hen : ee < D.n := by rw [← hee]; exact endM_lt HK.out.n0 hddb
        have HEE := Lib.hid hee
        have HE : Hid (Calls Tryd.prog 84 #[.pointer (some ⟨P, 0, none⟩), .int .i64 (dd : Int)] wr fun e w' => e = .returned (.int .i64 (ee : Int)) ∧ ∃ q, w' = wr.drewN q) := by
          have h1 := end_calls P f A D.n c dd (.slice (some ⟨bA, oA, none⟩) D.n ca) (.slice Ax D.m cx) (.slice As D.n cs) (.slice Ao D.n co) wr HMW.out.1 (by have := HK.out.n1; omega) HK.out.n0 hddb
          rw [hee] at h1
          exact h1
        obtain ⟨bL, oL, l, hAl, hbL, hl, c0, c1, c2, c3, c4, c5⟩ := HMW.out.2.1.at_ hen
        subst hAl
        obtain ⟨hPr, p0, p1, p2, p3, p4, p5⟩ := HMW.out.1
        rw [HNN.out] at hen p1 p2 p4 p5
        have heni : (ee : Int) < n := by omega
        have HLL := Lib.hid hl
        have HTK : Hid (ds.take (j + 1) = ds.take j ++ [dd]) := by unfold Hid; rw [List.take_add_one, hdd]; rfl
        clear hx hA hdd hl hee
        by_cases hk : l.kind = 1
        · have hke : (l.kind == 1) = true := by rw [beq_iff_eq]; exact hk
          have HGS : Hid (D.gaps u dd = gapsM D.m (D.sp.getD ee 0) u) := by
            unfold Hid DM.gaps
            rw [HEE.out, HLL.out]
            dsimp only
            rw [if_pos hk]
          have hsm := HK.out.spb ee l HLL.out (by rw [hk]; decide)
          have HGA : Hid (∀ X, Below wr.heap.size wr X → Calls Tryd.prog 85 #[.pointer (some ⟨P, 0, none⟩), .int .i64 (ee : Int), .bool u] X (GapsPost (D.gaps u dd) X)) := by
            intro X hX
            have hd := HMW.out.below hX
            rw [HGS.out]
            exact gapsAfter_calls P f _ _ _ _ D.n c D.n ca D.m cx D.n cs ee (D.sp.getD ee 0) u _ _ X hd.1 hd.2.2.2.2.1 (by rw [HNN.out]; exact hen) (map_ofNat_at (by rw [HK.out.sp, HNN.out]; exact hen)) hsm HK.out.m1
          obtain ⟨sv, hsv⟩ : ∃ sv, D.sp.getD ee 0 = sv := ⟨_, rfl⟩
          rw [hsv] at HGS hsm
          have HGM : Hid (∀ g, g ∈ D.gaps u dd → g ≤ D.m) := by
            rw [HGS.out]
            intro g hgm
            unfold gapsM at hgm
            split at hgm
            · simp at hgm; omega
            · split at hgm
              · simp at hgm; omega
              · split at hgm
                · simp at hgm; omega
                · simp at hgm; omega
          have HGN : Hid ((D.gaps u dd).length ≤ 2) := by
            unfold Hid
            rw [HGS.out]
            unfold gapsM
            split
            · simp
            · split
              · simp
              · split <;> simp
          obtain ⟨gs, hgs⟩ : ∃ gs, D.gaps u dd = gs := ⟨_, rfl⟩
          rw [hgs] at HGA HGM HGN
          have HGSE := Lib.hid hgs
          have hgn := HGN.out
          clear hk hsm hsv hgs
          go_wp2_with (first
            | (go_at_call 84; refine HE.out.mono ?_; rintro e w1 ⟨rfl, q, rfl⟩)
            | (go_at_call 85; refine (HGA.out _ (Go.below_drewN (Below.refl _ _) _)).mono ?_; rintro e w2 ⟨g, rfl, hgg, hgo, hgb⟩; have HGO := Lib.hid hgo; have HGB : Hid (Below wr.heap.size wr w2) := (Go.below_drewN (Below.refl _ _) _).trans hgb; have HGG : Hid (wr.heap.size ≤ g) := hgg; clear hgg hgo hgb))
          have HFM2 := Lib.hid (HM1.out.below HGB.out)
          have hFw := HM1.out.1.cell.1
          have HST2 : Hid (FgRel D f u o gs ((ds.take j).flatMap fun d => D.fps f u (D.gaps u d)) ((ds.take j).flatMap fun d => D.fzs f u (D.gaps u d)) (ds.map Int.ofNat) W F g dv (.int .i64 0) w2) := by
            have h1 := HGG.out
            refine ⟨0, pv, fv, Nat.zero_le _, rfl, by simp [DM.fps], by simp [DM.fzs], ?_, HGO.out, by omega, fun e => ?_, fun e => ?_⟩
            · have h2 := HFM2.out
              simp only [List.take_zero, DM.fps, DM.fzs, List.flatMap_nil, List.append_nil]
              exact h2
            · have := (World.ownsRow.lt HM1.out.2.2.1 g e).2; omega
            · have := (World.ownsRow.lt HM1.out.2.2.2.1 g e).2; omega
          clear hFw
          go_loopw [51] (fun iv wx => FgRel D f u o gs ((ds.take j).flatMap fun d => D.fps f u (D.gaps u d)) ((ds.take j).flatMap fun d => D.fzs f u (D.gaps u d)) (ds.map Int.ofNat) W F g dv iv wx) (fun iv _ => gs.length - (intOf iv).toNat)
          case atStart => exact HST2.out
          case round =>
            obtain ⟨t, pv2, fv2, ht, rfl, hb1, hb2, hfm, hgo, hgF, hgp, hgf⟩ := hrel
            have HF3 := Lib.hid hfm
            have HG3 := Lib.hid hgo
            have HS3 := Lib.hid (And.intro hgF (And.intro hgp hgf))
            have HB3 := Lib.hid (And.intro hb1 hb2)
            have HBX : Hid (Below w.heap.size w wr) := HWB.out.trans (hfm.2.2.2.2.2.2.2.2.2.2.2.mono HWB.out.size)
            obtain ⟨hF3, r0, r1, r2, r3, r4, r5⟩ := hfm.1.cell
            clear hfm hgo hgF hgp hgf hb1 hb2
            by_cases htl : t < gs.length
            · obtain ⟨y, hy, hyc, _, _, hgs2⟩ := HG3.out.cell (k := t) htl
              obtain ⟨gg, hgg, rfl⟩ : ∃ gg : Nat, gs[t]? = some gg ∧ y = .int .i64 (gg : Int) := by
                rw [List.getElem?_map] at hy
                cases hh : gs[t]? with
                | none => rw [hh] at hy; cases hy
                | some z => rw [hh] at hy; injection hy with hy; exact ⟨z, rfl, hy.symm⟩
              have htli : (t : Int) < gs.length := by omega
              have hb3 := HB3.out
              have hl0 := HL.out
              have HMT := Lib.hid (meet_calls HK.out (HM.out.below HBX.out) gg (HGM.out gg (List.mem_of_getElem? hgg)) hf hG.out HF3.out (by rw [List.length_append]; omega) (by rw [List.length_append]; omega))
              have HTG : Hid (gs.take (t + 1) = gs.take t ++ [gg]) := by unfold Hid; rw [List.take_add_one, hgg]; rfl
              clear hy hgg hb3 hl0
              go_wp2_with (first
                | (go_at_call 86; refine HMT.out.mono ?_; rintro e w3 ⟨rfl, pv3, fv3, h1, h2⟩; have HN1 := Lib.hid h1; have HN2 := Lib.hid h2; clear h1 h2))
              go_roundw
              case rel =>
                have hgl := gap_len (ax := D.ax) (m := D.m) (s := gg) u hf hG.out
                have hs3 := HS3.out
                have hb3 := HB3.out
                refine ⟨t + 1, pv3, fv3, by omega, by rw [Int.natCast_add]; rfl, ?_, ?_, ?_, HG3.out.kept (HN2.out.1 g hgs2 hs3.1 hs3.2.1 hs3.2.2), hs3.1, fun e => hs3.2.1 (HN2.out.2.1 g hgs2 e), fun e => hs3.2.2 (HN2.out.2.2.1 g hgs2 e)⟩
                · rw [HTG.out, DM.fps_snoc, List.length_append]; omega
                · rw [HTG.out, DM.fzs_snoc, List.length_append]; omega
                · rw [HTG.out, DM.fps_snoc, DM.fzs_snoc, ← List.append_assoc, ← List.append_assoc]
                  exact HN1.out
              case measure => simp [intOf]; omega
            · have htn : t = gs.length := by omega
              subst htn
              have hb3 := HB3.out
              have hl0 := HL.out
              rw [List.take_length] at hb3
              have HFE : Hid (FMem W.heap.size W F u o dv pv2 fv2 (ds.map Int.ofNat) ((ds.take (j + 1)).flatMap fun d => D.fps f u (D.gaps u d)) ((ds.take (j + 1)).flatMap fun d => D.fzs f u (D.gaps u d)) wr) := by
                have h1 := HF3.out
                rw [List.take_length] at h1
                unfold Hid
                rw [HTK.out, flat_snoc, flat_snoc, HGSE.out]
                exact h1
              have HLE : Hid (((ds.take (j + 1)).flatMap fun d => D.fps f u (D.gaps u d)).length ≤ 100 * (j + 1) ∧ ((ds.take (j + 1)).flatMap fun d => D.fzs f u (D.gaps u d)).length ≤ 100 * (j + 1)) := by
                unfold Hid
                rw [HTK.out, flat_snoc, flat_snoc, HGSE.out, List.length_append, List.length_append]
                omega
              have HOE : Hid ((o || decide (gs.length = 2)) = ((ds.take (j + 1)).any fun d => decide ((D.gaps u d).length = 2))) := by
                unfold Hid
                rw [HTK.out, List.any_append, ← HO.out]
                simp [HGSE.out]
              have r54 := r5 4
              clear hb3 hl0 r5
              by_cases h2 : gs.length = 2
              · have h2i : (gs.length : Int) = 2 := by omega
                have HO2 : Hid (true = ((ds.take (j + 1)).any fun d => decide ((D.gaps u d).length = 2))) := by
                  unfold Hid; rw [← HOE.out, h2]; simp
                clear h2
                go_wp2_with fail
                go_roundw
                case rel => exact ⟨j + 1, true, pv2, fv2, by omega, by rw [Int.natCast_add]; rfl, HO2.out, HLE.out.1, HLE.out.2, HFE.out.setO true⟩
                case measure => simp [intOf]; omega
              · have h2i : ¬ (gs.length : Int) = 2 := by omega
                have HO2 : Hid (o = ((ds.take (j + 1)).any fun d => decide ((D.gaps u d).length = 2))) := by
                  unfold Hid; rw [← HOE.out]; simp [h2]
                clear h2
                go_wp2_with fail
                go_roundw
                case rel => exact ⟨j + 1, o, pv2, fv2, by omega, by rw [Int.natCast_add]; rfl, HO2.out, HLE.out.1, HLE.out.2, HFE.out⟩
                case measure => simp [intOf]; omega
        · have hke : (l.kind == 1) = false := by rw [beq_eq_false_iff_ne]; exact hk
          have HGS : Hid (D.gaps u dd = []) := by
            unfold Hid DM.gaps
            rw [HEE.out, HLL.out]
            dsimp only
            rw [if_neg hk]
          have HREL : Hid (∀ q, FcRel D f u ds nd W F dv (.int .i64 ((j : Int) + 1)) (wr.drewN q)) := by
            intro q
            refine ⟨j + 1, o, pv, fv, by omega, by rw [Int.natCast_add]; rfl, ?_, ?_, ?_, ?_⟩
            · rw [HTK.out, List.any_append, ← HO.out]; simp [HGS.out]
            · rw [HTK.out, flat_snoc, HGS.out]; have := HL.out.1; simp only [DM.fps, List.flatMap_nil, List.append_nil]; unfold DM.fps at this; omega
            · rw [HTK.out, flat_snoc, HGS.out]; have := HL.out.2; simp only [DM.fzs, List.flatMap_nil, List.append_nil]; unfold DM.fzs at this; omega
            · rw [HTK.out, flat_snoc, flat_snoc, HGS.out, show D.fps f u [] = [] from rfl, show D.fzs f u [] = [] from rfl, List.append_nil, List.append_nil]
              exact HM1.out.below (Go.below_drewN (Below.refl _ _) q)
          clear hk
          go_wp2_with (first
            | (go_at_call 84; refine HE.out.mono ?_; rintro e w1 ⟨rfl, q, rfl⟩))
          go_roundw
          case rel => exact HREL.out _
          case measure => simp [intOf]; omega
      · have hjn : j = nd := by omega
        subst hjn
        have hsz := HSZ.out
        have hrc := (HBV.out.block w.heap.size (by omega)).trans HRC.out
        obtain ⟨hR, m0, m1, m2, m3, m4, m5⟩ := FaceB.cell hrc
        have m50 := m5 0
        have m51 := m5 1
        have m52 := m5 2
        have m53 := m5 3
        have m54 := m5 4
        obtain ⟨Ad, cd', hdv⟩ := own_form HM1.out.2.1
        obtain ⟨Ap, cp, hpv⟩ := own_form HM1.out.2.2.1
        obtain ⟨Af, cf, hfv⟩ := own_form HM1.out.2.2.2.1
        have HDV := Lib.hid hdv
        have HPV := Lib.hid hpv
        have HFV := Lib.hid hfv
        rw [hdv] at n1
        rw [hpv] at n2
        rw [hfv] at n3
        have hFR : ¬ F = w.heap.size := by have := HM1.out.2.2.2.2.2.2.2.2.2.2.1; omega
        obtain ⟨pn, hpn⟩ : ∃ pn, ((ds.take j).flatMap fun d => D.fps f u (D.gaps u d)).length = pn := ⟨_, rfl⟩
        obtain ⟨fn, hfn⟩ : ∃ fn, ((ds.take j).flatMap fun d => D.fzs f u (D.gaps u d)).length = fn := ⟨_, rfl⟩
        obtain ⟨dn, hdn⟩ : ∃ dn, (ds.map Int.ofNat).length = dn := ⟨_, rfl⟩
        rw [hpn] at n2 HPV
        rw [hfn] at n3 HFV
        rw [hdn] at n1 HDV
        have HRC2 := Lib.hid hrc
        clear hdv hpv hfv m5 hrc hpn hfn hdn
        go_wp2_with fail
        obtain ⟨X, hX⟩ : ∃ X, X = (((((wr.setCell ⟨w.heap.size, 0, none⟩ (.bool u)).setCell ⟨w.heap.size, 1, none⟩ (.slice Ad dn cd')).setCell ⟨w.heap.size, 2, none⟩ (.slice Ap pn cp)).setCell ⟨w.heap.size, 3, none⟩ (.slice Af fn cf)).setCell ⟨w.heap.size, 4, none⟩ (.bool o)) := ⟨_, rfl⟩
        have hXF : FaceB X w.heap.size u (.slice Ad dn cd') (.slice Ap pn cp) (.slice Af fn cf) o := by
          rw [hX]
          unfold FaceB
          simp [World.setCell, Array.getElem?_modify, HRC2.out]
        have hXK : ∀ q, q ≠ w.heap.size → X.heap[q]? = wr.heap[q]? := fun q hq => by
          rw [hX]
          exact (Below.heap_setCell _ _ _ q hq).trans ((Below.heap_setCell _ _ _ q hq).trans ((Below.heap_setCell _ _ _ q hq).trans ((Below.heap_setCell _ _ _ q hq).trans (Below.heap_setCell _ _ _ q hq))))
        have hXB : Below w.heap.size w X := by
          rw [hX]
          exact ((((HBW.out.setCell (p := ⟨w.heap.size, 0, none⟩) (Nat.le_refl _) _).setCell (p := ⟨w.heap.size, 1, none⟩) (Nat.le_refl _) _).setCell (p := ⟨w.heap.size, 2, none⟩) (Nat.le_refl _) _).setCell (p := ⟨w.heap.size, 3, none⟩) (Nat.le_refl _) _).setCell (p := ⟨w.heap.size, 4, none⟩) (Nat.le_refl _) _
        rw [← hX]
        obtain ⟨hRX, c0, c1, c2, c3, c4, c5⟩ := hXF.cell
        have hle : w.heap.size ≤ W.heap.size := HWB.out.size
        have hrow : ∀ {T : TypeId} {sz n : Nat} {v : Value} {xs : List Value}, wr.ownsRow W.heap.size T sz v n xs → X.ownsRow w.heap.size T sz v n xs := fun h =>
          own_base (own_kept2 h (fun g e => hXK g (by have := (World.ownsRow.lt h g e).1; omega))) hle
        refine bodyPost_ret (v := .agg #[.bool u, .slice Ad dn cd', .slice Ap pn cp, .slice Af fn cf, .bool o]) (by simp [results, Tryd.results45, go_sem, c0, c1, c2, c3, c4]) rfl ?_
        have e1 : ds.take j = ds := List.take_of_length_le (by rw [HLEN.out]; exact Nat.le_refl _)
        have h1 := HM1.out.2.1
        have h2 := HM1.out.2.2.1
        have h3 := HM1.out.2.2.2.1
        have h4 := HO.out
        rw [e1] at h2 h3 h4
        rw [HDV.out] at h1
        rw [HPV.out] at h2
        rw [HFV.out] at h3
        have hfa : D.face f ds = ⟨u, ds.map Int.ofNat, ds.flatMap fun d => D.fps f u (D.gaps u d), ds.flatMap fun d => D.fzs f u (D.gaps u d), ds.any fun d => decide ((D.gaps u d).length = 2)⟩ := by
          unfold DM.face
          rw [HU.out]
        rw [hfa]
        exact ⟨_, _, _, by rw [h4], hrow h1, hrow h2, hrow h3, hXB⟩

end Go.Proofs.YtbbpockkafbfmaaDoor

/-
  The walk of Faces.
-/
namespace Go.Proofs.YtbbpockkafbfmaaDoor
open Go.RowKit

theorem DM.inner_facts {D : DM} (k : D.ok) (first start : Nat) : ∀ (fuel dart : Nat) (met : List Bool) (ds : List Nat), dart < 2 * D.n → (∀ d, d ∈ ds → d < 2 * D.n) → start ≤ ds.length →
    (∀ d, d ∈ (D.inner first start fuel dart met ds).2.2 → d < 2 * D.n) ∧ ds.length ≤ (D.inner first start fuel dart met ds).2.2.length ∧ ((D.inner first start fuel dart met ds).1 = true → start < (D.inner first start fuel dart met ds).2.2.length)
  | 0, dart, met, ds, hd, hds, hs => ⟨hds, Nat.le_refl _, fun h => by cases h⟩
  | fuel + 1, dart, met, ds, hd, hds, hs => by
    rw [DM.inner]
    split
    · split
      · exact ⟨hds, Nat.le_refl _, fun h => by cases h⟩
      · have ih := DM.inner_facts k first start fuel (D.left dart) (met.set dart true) (ds ++ [dart]) (DM.left_lt k hd) (fun d h => by
          rcases List.mem_append.1 h with h | h
          · exact hds d h
          · rw [List.mem_singleton] at h; subst h; exact hd) (by simp; omega)
        refine ⟨ih.1, ?_, ih.2.2⟩
        have := ih.2.1
        simp at this
        omega
    · rename_i hc
      refine ⟨hds, Nat.le_refl _, fun _ => ?_⟩
      dsimp only
      omega
theorem DM.outer_facts {D : DM} (k : D.ok) : ∀ q, q ≤ 2 * D.n → (∀ d, d ∈ (D.outer q).ds → d < 2 * D.n) ∧ (∀ p, p ∈ (D.outer q).all → p.1 < p.2 ∧ p.2 ≤ (D.outer q).ds.length) ∧ (D.outer q).all.length ≤ q
  | 0, _ => ⟨fun d h => by simp [DM.outer] at h, fun p h => by simp [DM.outer] at h, by simp [DM.outer]⟩
  | q + 1, hq => by
    obtain ⟨h1, h2, h3⟩ := DM.outer_facts k q (by omega)
    have ih := DM.inner_facts k q (D.outer q).ds.length (2 * D.n + 1) q (D.outer q).met (D.outer q).ds (by omega) h1 (Nat.le_refl _)
    rw [DM.outer]
    dsimp only
    refine ⟨ih.1, fun p hp => ?_, ?_⟩
    · split at hp
      · rename_i hb
        rcases List.mem_append.1 hp with hp | hp
        · have := h2 p hp; have := ih.2.1; omega
        · rw [List.mem_singleton] at hp
          subst hp
          exact ⟨ih.2.2 hb, Nat.le_refl _⟩
      · have := h2 p hp; have := ih.2.1; omega
    · split
      · simp; omega
      · omega
/-- The darts of a face. -/
def DM.piece (D : DM) (p : Nat × Nat) : List Nat := ((D.outer (2 * D.n)).ds.drop p.1).take (p.2 - p.1)
/-- The faces of a code. -/
def DM.faces (D : DM) (f : Int) : List FaceM := (D.outer (2 * D.n)).all.map fun p => D.face f (D.piece p)

theorem piece_sl {w : World} {gd B L C : Nat} {xs : List Nat} (h : OwnV w B 3 (.slice (some ⟨gd, 0, none⟩) L C) (xs.map intV)) {p : Nat × Nat} (h1 : p.1 < p.2) (h2 : p.2 ≤ xs.length) :
    SL w (some ⟨gd, p.1, none⟩) (p.2 - p.1) (((xs.drop p.1).take (p.2 - p.1)).map Int.ofNat) := by
  have hl := h.len
  rw [List.length_map] at hl
  refine ⟨by simp; omega, fun _ => ⟨gd, p.1, rfl, (h.lt gd rfl).2, fun k hk => ?_⟩⟩
  obtain ⟨y, hy, hc, _⟩ := h.cell (k := p.1 + k) (by omega)
  rw [hc]
  have hx : xs[p.1 + k]? = some xs[p.1 + k] := List.getElem?_eq_getElem (by omega)
  rw [List.getElem?_map, hx] at hy
  injection hy with hy
  rw [← hy, List.getElem?_map, List.getElem?_take, if_pos hk, List.getElem?_drop, hx]
  rfl

def faceVs (M : FaceM) (t : Value × Value × Value) : List Value := [.bool M.above, t.1, t.2.1, t.2.2, .bool M.outer]
/-- The faces in memory: their slices. -/
def FacesAt (w : World) (B : Nat) (Ms : List FaceM) (ts : List (Value × Value × Value)) : Prop :=
  ts.length = Ms.length ∧ ∀ (k : Nat) (M : FaceM) (t : Value × Value × Value), Ms[k]? = some M → ts[k]? = some t → OwnZ w B t.1 M.darts ∧ OwnP w B t.2.1 M.places ∧ OwnZ w B t.2.2 M.fingers
def OwnF (w : World) (B : Nat) (v : Value) (Ms : List FaceM) (ts : List (Value × Value × Value)) : Prop := w.ownsRow B 45 5 v Ms.length ((Ms.zip ts).flatMap fun p => faceVs p.1 p.2)
/-- What Faces leaves. -/
def FacesPost (D : DM) (f : Int) (w : World) (e : Ending) (w' : World) : Prop :=
  ∃ v ts, e = .returned (.tuple #[v, .int .i64 0]) ∧ OwnF w' w.heap.size v (D.faces f) ts ∧ FacesAt w' w.heap.size (D.faces f) ts ∧ Below w.heap.size w w'
def FsRel (D : DM) (f : Int) (w1 : World) (N : Nat) (av iv : Value) (wr : World) : Prop :=
  ∃ (j : Nat) (ts : List (Value × Value × Value)), j ≤ N ∧ iv = .int .i64 (j : Int) ∧ OwnF wr w1.heap.size av ((D.faces f).take j) ts ∧ FacesAt wr w1.heap.size ((D.faces f).take j) ts ∧ Below w1.heap.size w1 wr

theorem infoFace : (Tryd.prog.info? 45).map (fun i => (i.zero, i.size, i.bytes)) = some (some (.agg #[.bool false, .slice none 0 0, .slice none 0 0, .slice none 0 0, .bool false]), 5, 88) := by kernel_rfl

theorem plain_gate {f : Int} {l : Lt} (h : plainL f l) (hf : 0 ≤ f) : 0 ≤ l.gate ∧ l.gate ≤ f := by
  rcases h with h | h
  · exact ⟨h.2.2.2.2.1, h.2.2.2.2.2⟩
  · rw [h.2.1]; exact ⟨Int.le_refl _, hf⟩
theorem OwnF.nil (w : World) (B : Nat) (ts : List (Value × Value × Value)) (h : ts = []) : OwnF w B (.slice none 0 0) [] ts := by subst h; exact World.ownsRow_nil _ _ _ _
/-- One face more. -/
theorem faces_push {w wr w3 w5 : World} {B : Nat} {av v5 : Value} {Ms : List FaceM} {ts : List (Value × Value × Value)} {M : FaceM} {dv pv fv : Value} (h1 : OwnF wr B av Ms ts) (h2 : FacesAt wr B Ms ts) (hb : Below B w wr) (h3 : Below wr.heap.size wr w3) (hB : B ≤ wr.heap.size)
    (q1 : OwnZ w3 wr.heap.size dv M.darts) (q2 : OwnP w3 wr.heap.size pv M.places) (q3 : OwnZ w3 wr.heap.size fv M.fingers) (o : Obj) (hg : (w3.alloc o).grownBy w5 av.ownBlock) (ho : w5.ownsRow B 45 5 v5 (Ms.length + 1) (((Ms.zip ts).flatMap fun p => faceVs p.1 p.2) ++ faceVs M (dv, pv, fv))) :
    OwnF w5 B v5 (Ms ++ [M]) (ts ++ [(dv, pv, fv)]) ∧ FacesAt w5 B (Ms ++ [M]) (ts ++ [(dv, pv, fv)]) ∧ Below B w w5 := by
  have hav : (w3.alloc o).ownsRow B 45 5 av Ms.length ((Ms.zip ts).flatMap fun p => faceVs p.1 p.2) := ownsRow_below (ownsRow_below h1 h3) ((Below.refl _ _).alloc (Nat.le_refl _) o)
  have hbb : Below B w (w3.alloc o) := (hb.trans (h3.mono hB)).alloc (by have := h3.size; omega) o
  have hkeep : ∀ {T : TypeId} {sz n B' : Nat} {v : Value} {xs : List Value}, B ≤ B' → w3.ownsRow B' T sz v n xs → T ≠ 45 → w5.ownsRow B T sz v n xs := fun hBB h hT => by
    have h' := ownsRow_below h ((Below.refl _ _).alloc (Nat.le_refl _) o)
    exact own_base (own_kept2 h' (fun g e => hg.block g (World.ownsRow.lt h' g e).2 (fun c => own_apart h' hav hT g e c.symm))) hBB
  refine ⟨?_, ⟨by simp [h2.1], fun k M' t hM ht => ?_⟩, hbb.grown hg (show B ≤ (w3.alloc o).heap.size by have h9 := h3.size; simp; omega) (fun j hj => (World.ownsRow.lt hav j hj).1)⟩
  · unfold OwnF
    rw [List.zip_append h2.1.symm, List.flatMap_append, List.length_append]
    simpa using ho
  · by_cases e : k < Ms.length
    · rw [List.getElem?_append_left e] at hM
      rw [List.getElem?_append_left (by rw [h2.1]; exact e)] at ht
      obtain ⟨r1, r2, r3⟩ := h2.2 k M' t hM ht
      exact ⟨hkeep (Nat.le_refl _) (ownsRow_below r1 h3) (by decide), hkeep (Nat.le_refl _) (ownsRow_below r2 h3) (by decide), hkeep (Nat.le_refl _) (ownsRow_below r3 h3) (by decide)⟩
    · have hk : k = Ms.length := by
        rcases Nat.lt_or_ge k (Ms ++ [M]).length with q | q
        · simp at q; omega
        · rw [List.getElem?_eq_none q] at hM; cases hM
      subst hk
      rw [List.getElem?_append_right (Nat.le_refl _), Nat.sub_self] at hM
      rw [List.getElem?_append_right (by rw [h2.1]; exact Nat.le_refl _), h2.1, Nat.sub_self] at ht
      injection hM with hM
      injection ht with ht
      subst hM; subst ht
      exact ⟨hkeep hB q1 (by decide), hkeep hB q2 (by decide), hkeep hB q3 (by decide)⟩

set_option maxHeartbeats 4000000 in
set_option maxRecDepth 100000 in
theorem faces_calls (f : Int) (A : Option Addr) (n c : Nat) (ls : List Lt) (w : World) (hL : LS w A n ls) (hA : ∀ b off, A = some ⟨b, off, none⟩ → b < w.heap.size) (hI : ∀ l, l ∈ ls → I64 l.id) (hz : checkE f ls = 0) (hn : 0 < n) :
    Calls Tryd.prog 14 #[.agg #[.int .i64 f, .slice A n c]] w fun e w' => ∃ st pt, ordM ls (numP f ls) n n = some st ∧ pairM ls (cntK 2 ls / 2) n n = some pt ∧ FacesPost (dmOf f ls st pt) f w e w' := by
  have hll := hL.1
  subst hll
  have HDR : Hid (∀ W, Below w.heap.size w W → Calls Tryd.prog 43 #[.agg #[.int .i64 f, .slice A ls.length c]] W fun e w' => ∃ P ga x s o st pt, e = .returned (.tuple #[.pointer (some ⟨P, 0, none⟩), .int .i64 0]) ∧ (dmOf f ls st pt).ok ∧
      DMem (dmOf f ls st pt) w' P f A (some ⟨ga, 0, none⟩) (some ⟨x, 0, none⟩) (some ⟨s, 0, none⟩) (some ⟨o, 0, none⟩) c ls.length (numP f ls) ls.length ls.length ∧ ordM ls (numP f ls) ls.length ls.length = some st ∧ pairM ls (cntK 2 ls / 2) ls.length ls.length = some pt ∧
      f ≤ 40 ∧ (∀ l, l ∈ ls → 0 ≤ l.gate ∧ l.gate ≤ f) ∧ Below W.heap.size W w') := by
    intro W hW
    refine (draw_calls f A ls.length c ls W (hL.below hW) (fun b off e => Nat.lt_of_lt_of_le (hA b off e) hW.size) hI).mono ?_
    rintro e w' ⟨hb, ⟨hne, _⟩ | ⟨P, _, _, _, rfl, h1, h2, h3, h4, ga, x, s, o, st, pt, g1, g2, g3, g4, e1, e2, e3, h, o1, o2, o3, o4⟩⟩
    · exact absurd hz hne
    · exact ⟨P, ga, x, s, o, st, pt, rfl, dmOf_ok h1 h2 h4 hn e1 e2, ⟨h.dia, (hL.below hW).below hb, BL.of_own o1, SL.of_ownV o2, SL.of_ownV o3, SL.of_ownV o4⟩, e1, e2, h2.2, fun l hl => plain_gate (h4 l hl) h2.1, hb⟩
  clear hL hA hI hz
  go_enter Tryd.func14, Tryd.ntmps14
  go_wp2_with fail
  refine (HDR.out _ ((Below.refl _ _).alloc (Nat.le_refl _) _)).mono ?_
  rintro e w1 ⟨P, ga, x, s, o, st, pt, rfl, hok, hmem, ho, hp, hf, hg, hb1⟩
  have HB1 : Hid (Below w.heap.size w w1) := ((Below.refl w.heap.size w).alloc (Nat.le_refl _) _).trans (hb1.mono (by simp))
  obtain ⟨D, hD⟩ : ∃ D, dmOf f ls st pt = D := ⟨_, rfl⟩
  have HOP := Lib.hid (And.intro ho (And.intro hp hD))
  have hDL : D.ls = ls := by rw [← hD]; rfl
  rw [hD] at hok hmem
  have HK := Lib.hid hok
  have HM := Lib.hid hmem
  have HG : Hid (∀ l, l ∈ D.ls → 0 ≤ l.gate ∧ l.gate ≤ f) := by rw [hDL]; exact hg
  have HW := Lib.hid (walks_calls hok hmem)
  clear hok hmem ho hp hg hb1 hD hDL
  go_wp2_with (first
    | (go_at_call 44; refine HW.out.mono ?_; rintro e w2 ⟨v, gd, rfl, hgd, hown, hds, hb2⟩; obtain ⟨Av, cv, rfl⟩ := own_form hown; have HOWN := Lib.hid hown; have HDS := Lib.hid hds; have HB2 := Lib.hid hb2; clear hgd hown hds hb2))
  have HOF := Lib.hid (DM.outer_facts HK.out (2 * D.n) (Nat.le_refl _))
  obtain ⟨N, hN⟩ : ∃ N, N = (D.outer (2 * D.n)).all.length := ⟨_, rfl⟩
  have HAN : Hid (N = (D.outer (2 * D.n)).all.length) := hN
  have HNF : Hid ((D.faces f).length = N) := by unfold Hid DM.faces; rw [hN, List.length_map]
  have hN2 : N ≤ 2000 := by have h1 := HOF.out.2.2; have h2 := HK.out.n1; omega
  have HDL2 : Hid ((D.outer (2 * D.n)).ds.length ≤ 2000) := by
    have h2 := HK.out.n1
    rcases HDS.out.2 with ⟨hv, _⟩ | ⟨g, cap, cur, hv, _, _, hc, _⟩
    · cases hv
    · injection hv with _ e1 e2
      show _ ≤ _
      omega
  rw [← hN]
  have HST : Hid (FsRel D f w2 N (.slice none 0 0) (.int .i64 0) w2) := ⟨0, [], Nat.zero_le _, rfl, World.ownsRow_nil _ _ _ _, ⟨rfl, fun k M t hM => by simp at hM⟩, Below.refl _ _⟩
  clear hN
  go_loopw [6, 20] (fun av iv wr => FsRel D f w2 N av iv wr) (fun _ iv _ => N - (intOf iv).toNat)
  case atStart => exact HST.out
  case round =>
    obtain ⟨j, ts, hj, rfl, hof, hfa, hb⟩ := hrel
    have HTL : Hid (((D.faces f).take j).length = j) := by unfold Hid; rw [List.length_take, HNF.out]; omega
    obtain ⟨Aj, cj, hav⟩ := own_form hof
    rw [HTL.out] at hav
    subst hav
    have HFF := Lib.hid hof
    have HFA := Lib.hid hfa
    have HB := Lib.hid hb
    have hbs := hb.size
    clear hof hfa hb
    by_cases hlt : j < N
    · obtain ⟨p, hp⟩ : ∃ p, (D.outer (2 * D.n)).all[j]? = some p := ⟨_, List.getElem?_eq_getElem (by have h1 := HAN.out; omega)⟩
      have hpp := HOF.out.2.1 p (List.mem_of_getElem? hp)
      have HOW := Lib.hid (HOWN.out.below HB.out)
      obtain ⟨gw, rfl⟩ : ∃ gw, Av = some ⟨gw, 0, none⟩ := by
        rcases HOWN.out.2 with ⟨hv, h0⟩ | ⟨g, cap, cur, hv, _⟩
        · have h1 := HAN.out
          rw [List.length_map] at h0
          omega
        · injection hv with e1
          exact ⟨g, e1⟩
      have hpc : wr.cell? ⟨gw, j, none⟩ = some (.slice (some ⟨gd, p.1, none⟩) (p.2 - p.1) (2 * D.n - p.1)) := by
        have ho2 := HOW.out
        have hl2 : ((D.outer (2 * D.n)).all.map (pieceV gd (2 * D.n))).length = N := by rw [List.length_map]; exact HAN.out.symm
        obtain ⟨y, hy, hc, _⟩ := OwnV.cell ho2 (k := j) (by have h1 := OwnV.len ho2; omega)
        rw [List.getElem?_map, hp] at hy
        injection hy with hy
        rw [hc, ← hy]
        rfl
      have HFC := Lib.hid (face_calls HK.out ((HM.out.below HB2.out).below HB.out) hf (by exact HG.out) gd p.1 (p.2 - p.1) (2 * D.n - p.1) (D.piece p) (piece_sl (HDS.out.below HB.out) hpp.1 hpp.2) (by omega) (by have h1 := HDL2.out; omega) (fun d hd => HOF.out.1 d (List.mem_of_mem_drop (List.mem_of_mem_take hd))))
      have HTK : Hid ((D.faces f).take (j + 1) = (D.faces f).take j ++ [D.face f (D.piece p)]) := by
        unfold Hid
        rw [List.take_add_one]
        unfold DM.faces
        rw [List.getElem?_map, hp]
        rfl
      obtain ⟨M, hM⟩ : ∃ M, D.face f (D.piece p) = M := ⟨_, rfl⟩
      rw [hM] at HFC HTK
      obtain ⟨dp, hdp⟩ : ∃ dp, p.2 - p.1 = dp := ⟨_, rfl⟩
      obtain ⟨dc, hdc⟩ : ∃ dc, 2 * D.n - p.1 = dc := ⟨_, rfl⟩
      rw [hdp, hdc] at HFC hpc
      have hji : (j : Int) < N := by omega
      obtain ⟨i0, hi, hz0, hz1, hz2⟩ := info_parts infoFace
      clear hp hpp hM hdp hdc
      go_wp2_with (first
        | (go_at_call 45; refine HFC.out.mono ?_; rintro e w3 ⟨dv, pv, fv, rfl, q1, q2, q3, hb3⟩; obtain ⟨A1, c1, rfl⟩ := own_form q1; obtain ⟨A2, c2, rfl⟩ := own_form q2; obtain ⟨A3, c3, rfl⟩ := own_form q3; have HQ := Lib.hid (And.intro q1 (And.intro q2 (And.intro q3 hb3))); have h3s := hb3.size; have HAV : Hid (∀ o, (w3.alloc o).ownsRow w2.heap.size 45 5 (.slice Aj j cj) j ((((D.faces f).take j).zip ts).flatMap fun p => faceVs p.1 p.2)) := (by intro o; have h1 := ownsRow_below (ownsRow_below HFF.out hb3) ((Below.refl _ _).alloc (Nat.le_refl _) o); rw [HTL.out] at h1; exact h1); clear q1 q2 q3 hb3)
        | (at_builtin; refine wpList_append_own_at _ rfl _ _ 37 rfl w2.heap.size 45 i0 (.agg #[.bool false, .slice none 0 0, .slice none 0 0, .slice none 0 0, .bool false]) 5 88 Tryd.underlying37 hi hz0 hz1 hz2 rfl (by decide) (.slice Aj j cj) j _ rfl (HAV.out _) ⟨w3.heap.size, 0, none⟩ 1 1 [.bool M.above, .slice A1 _ c1, .slice A2 _ c2, .slice A3 _ c3, .bool M.outer] rfl rfl (cells_new _ _ _) (by intro u hu; simp only [List.mem_cons, List.not_mem_nil, or_false] at hu; rcases hu with rfl | rfl | rfl | rfl | rfl <;> rfl) (by have := HTL.out; unfold maxLen; omega) (by have := HTL.out; omega) (by simp; omega) ?_; intro v5 w5 hown5 hgr5 hnil5 hloc5; have H5 := Lib.hid (faces_push HFF.out HFA.out HB.out HQ.out.2.2.2 HB.out.size HQ.out.1 HQ.out.2.1 HQ.out.2.2.1 _ hgr5 (by rw [HTL.out]; exact hown5)); clear hown5 hgr5 hnil5 hloc5))
      go_roundw
      case rel =>
        have hrr : FsRel D f w2 N v5 (.int .i64 ((j : Int) + 1)) w5 := ⟨j + 1, ts ++ [_], by omega, rfl, by rw [HTK.out]; exact H5.out.1, by rw [HTK.out]; exact H5.out.2.1, H5.out.2.2⟩
        first | exact hrr | ((repeat (apply Exists.intro)); exact And.intro hrr rfl)
      case measure => simp [intOf]; omega
    · have hjn : j = N := by omega
      subst hjn
      go_wp2_with fail
      go_ret2
      have hfe : (D.faces f).take j = D.faces f := List.take_of_length_le (by rw [HNF.out]; exact Nat.le_refl _)
      have hw1 := HB1.out.size
      have hw2 := HB2.out.size
      have hBB : w.heap.size ≤ w2.heap.size := by omega
      refine ⟨st, pt, HOP.out.1, HOP.out.2.1, ?_⟩
      rw [HOP.out.2.2]
      refine ⟨_, ts, rfl, ?_, ⟨?_, fun k M t hM ht => ?_⟩, (HB1.out.trans (HB2.out.mono hw1)).trans (HB.out.mono hBB)⟩
      · have h1 := own_base HFF.out hBB
        rw [hfe] at h1
        exact h1
      · have h1 := HFA.out.1; rw [hfe] at h1; exact h1
      · have h1 := HFA.out.2 k M t (by rw [hfe]; exact hM) ht
        exact ⟨own_base h1.1 hBB, own_base h1.2.1 hBB, own_base h1.2.2 hBB⟩

end Go.Proofs.YtbbpockkafbfmaaDoor
