/-
  The reference's Faces of a valid code's map (for CodeFaces).
-/
import Derived.Test.YtbbpockkafbfmaaDoorRefPe
import Derived.Test.YtbbpockkafbfmaaDoorRefWc
import Derived.Test.YtbbpockkafbfmaaDoorAxW
import Derived.Test.YtbbpockkafbfmaaDoorSmF
import Derived.Test.YtbbpockkafbfmaaDoorLet3
import Derived.Deep.RegionLaw
namespace Go.Proofs.YtbbpockkafbfmaaDoor
open Go.RowKit

theorem belowF (f : Int) (A : Option Addr) (n cap : Nat) (ls : List Lt) (i : Nat) (w : World) (h : LS w A n ls) (hn : n ≤ 1000000) (hi : i < n) :
    Calls Tryd.prog 19 #[.agg #[.int .i64 f, .slice A n cap], .int .i64 (i : Int)] w fun e w' => e = .returned (.bool (!downB ls (i + 1))) ∧ Below w.heap.size w w' := by
  have HB0 : Hid (Below w.heap.size w (w.alloc (.cells #[.int .i64 f, .slice A n cap] 33))) := (Below.refl _ _).alloc (Nat.le_refl _) _
  have HD := Lib.hid (down_calls f A n cap ls (i + 1) _ (h.below HB0.out) hn (by omega))
  rw [show ((i + 1 : Nat) : Int) = (i : Int) + 1 by omega] at HD
  obtain ⟨b, hb⟩ : ∃ b, downB ls (i + 1) = b := ⟨_, rfl⟩
  rw [hb] at HD ⊢
  have hi2 : (i : Int) < 1000000 := by omega
  clear h hb
  go_enter Tryd.func19, Tryd.ntmps19
  go_wp2_with fail
  refine HD.out.mono ?_
  rintro e w1 ⟨rfl, hb1⟩
  go_wp2_with fail
  go_ret
  exact ⟨rfl, HB0.out.trans (hb1.mono HB0.out.size)⟩

theorem heap_ltF {w : World} {q : Nat} {o : Obj} (h : w.heap[q]? = some o) : q < w.heap.size := by
  rcases Nat.lt_or_ge q w.heap.size with c | c
  · exact c
  · rw [Array.getElem?_eq_none c] at h; cases h
/-- What is known of a walk. -/
structure WkF (D : DM) (wk : List Nat) (h : Nat) : Prop where
  hd : wk[0]? = some h
  hlt : h < 2 * D.n
  mem : ∀ d, d ∈ wk → d < 2 * D.n + 2 * D.m
  len : wk.length ≤ 4000
theorem exD_len {T : Nat → Nat} {N : Nat} : ∀ l : List Nat, (l.flatMap (exD T N)).length ≤ 2 * l.length
  | [] => Nat.le_refl _
  | x :: l => by
    have := exD_len (T := T) (N := N) l
    have h2 : (exD T N x).length ≤ 2 := by unfold exD; split <;> simp
    rw [List.flatMap_cons, List.length_append, List.length_cons]
    omega
theorem flatten_len {l : List (List Nat)} {p : List Nat} (h : p ∈ l) : p.length ≤ l.flatten.length := by
  induction l with
  | nil => cases h
  | cons a l ih =>
    rw [List.flatten_cons, List.length_append]
    rcases List.mem_cons.1 h with e | e
    · subst e; omega
    · have := ih e; omega
theorem walk_facts {D : DM} (g : D.good) {P : List (List Nat)} (hP : Fcs D P) {wk : List Nat} (hw : wk ∈ (refOut D.turn (2 * D.n + 2 * D.m) (2 * D.n + 2 * D.m)).2) : ∃ h, WkF D wk h := by
  rw [walks_ref g] at hw
  obtain ⟨p, hp, rfl⟩ := List.mem_map.1 hw
  have hm : D.piece p ∈ P := by rw [← hP.map]; exact List.mem_map.2 ⟨p, hp, rfl⟩
  obtain ⟨h, r, e, _, _⟩ := hP.pc _ hm
  have hb : ∀ d, d ∈ D.piece p → d < 2 * D.n := fun d hd => (hP.mem d).1 (List.mem_flatten.2 ⟨_, hm, hd⟩)
  have hn := g.ok.n1
  have hx := turn_ext g
  have hl : (D.piece p).length ≤ 2 * D.n := Nat.le_trans (flatten_len hm) (nodup_bound hP.nodup (fun x hx => (hP.mem x).1 hx))
  have h2 := exD_len (T := D.turn) (N := 2 * D.n) (D.piece p)
  refine ⟨h, ?_, hb h (by rw [e]; exact List.mem_cons_self ..), fun d hd => ?_, ?_⟩
  · show ((D.piece p).flatMap (exD D.turn (2 * D.n)))[0]? = some h
    rw [e, List.flatMap_cons]
    unfold exD
    split <;> rfl
  · obtain ⟨x, hx1, hx2⟩ := List.mem_flatMap.1 hd
    have hxb := hb x hx1
    rcases exD_mem hx2 with q | ⟨q, q2⟩
    · omega
    · rw [q2]; exact (hx.axis x hxb q).1
  · show ((D.piece p).flatMap (exD D.turn (2 * D.n))).length ≤ 4000
    omega

theorem pc_len {f : Int} {ls : List Lt} {ax : List Nat} {m j : Nat} (hf : f ≤ 40) (hg : ∀ l, l ∈ ls → 0 ≤ l.gate ∧ l.gate ≤ f) : (pcP f ls ax m j).length ≤ 82 ∧ (pcZ f ls ax m j).length ≤ 82 := by
  have h1 := fun s => gap_len (ax := ax) (m := m) (s := s) true hf hg
  have h2 : ∀ s, (gapPlaces f ls ax m s).length ≤ 41 ∧ (gapFingers f ls ax m s).length ≤ 41 := fun s => h1 s
  have a := h2 (j + 1)
  have b := h2 m
  have c := h2 0
  unfold pcP pcZ
  split
  · omega
  · rw [List.length_append, List.length_append]; omega

theorem rda_len (D : DM) : ∀ l : List Nat, (l.flatMap D.rda).length ≤ l.length
  | [] => Nat.le_refl _
  | x :: l => by
    have := rda_len D l
    have h2 : (D.rda x).length ≤ 1 := by unfold DM.rda; split <;> simp
    rw [List.flatMap_cons, List.length_append, List.length_cons]
    omega
theorem rpl_len {D : DM} {f : Int} (hf : f ≤ 40) (hg : ∀ l, l ∈ D.ls → 0 ≤ l.gate ∧ l.gate ≤ f) : ∀ l : List Nat, (l.flatMap (D.rpl f)).length ≤ 82 * l.length
  | [] => Nat.le_refl _
  | x :: l => by
    have := rpl_len hf hg l
    have h1 := (pc_len (ax := D.ax) (m := D.m) (j := (x - 2 * D.n) / 2) hf hg).1
    have h2 : (D.rpl f x).length ≤ 82 := by
      unfold DM.rpl
      split
      · simp
      · split
        · exact h1
        · rw [List.length_reverse]; exact h1
    rw [List.flatMap_cons, List.length_append, List.length_cons]
    omega
theorem rfz_len {D : DM} {f : Int} (hf : f ≤ 40) (hg : ∀ l, l ∈ D.ls → 0 ≤ l.gate ∧ l.gate ≤ f) : ∀ l : List Nat, (l.flatMap (D.rfz f)).length ≤ 82 * l.length
  | [] => Nat.le_refl _
  | x :: l => by
    have := rfz_len hf hg l
    have h1 := (pc_len (ax := D.ax) (m := D.m) (j := (x - 2 * D.n) / 2) hf hg).2
    have h2 : (D.rfz f x).length ≤ 82 := by
      unfold DM.rfz
      split
      · simp
      · split
        · exact h1
        · rw [List.length_reverse]; exact h1
    rw [List.flatMap_cons, List.length_append, List.length_cons]
    omega
theorem faces_small {D : DM} (g : D.good) {P : List (List Nat)} (hP : Fcs D P) {f : Int} (hf : f ≤ 40) (hg : ∀ l, l ∈ D.ls → 0 ≤ l.gate ∧ l.gate ≤ f) :
    (D.faces f).length ≤ 2000 ∧ ∀ M, M ∈ D.faces f → M.darts.length ≤ 4000 ∧ M.places.length ≤ 400000 ∧ M.fingers.length ≤ 400000 := by
  have hn := g.ok.n1
  refine ⟨?_, fun M hM => ?_⟩
  · unfold DM.faces
    rw [List.length_map]
    have := (DM.outer_facts g.ok (2 * D.n) (Nat.le_refl _)).2.2
    omega
  · rw [← faces_ref g f hP] at hM
    obtain ⟨wk, hw, rfl⟩ := List.mem_map.1 hM
    obtain ⟨h, k⟩ := walk_facts g hP hw
    have h4 := k.len
    have a := rda_len D wk
    have b := rpl_len hf hg wk
    have c := rfz_len hf hg wk
    unfold DM.rface
    dsimp only
    rw [List.length_map]
    omega

theorem FaceB.setD {w : World} {F : Nat} {ab o : Bool} {dv pv fv : Value} (h : FaceB w F ab dv pv fv o) (v : Value) : FaceB (w.setCell ⟨F, 1, none⟩ v) F ab v pv fv o := by
  unfold FaceB at h ⊢
  simp [World.setCell, Array.getElem?_modify, h]
theorem FMem.addD {B : Nat} {w0 w1 w2 : World} {F : Nat} {ab o : Bool} {dv pv fv v1 : Value} {ds fs dl : List Int} {ps : List (Int × Int)} (h : FMem B w0 F ab o dv pv fv ds ps fs w1)
    (ho : w2.ownsRow B 3 1 v1 (ds.length + dl.length) (ds.map (Value.int .i64) ++ dl.map (Value.int .i64))) (hg : w1.grownBy w2 dv.ownBlock) (hl : v1.ownBlock = dv.ownBlock ∨ v1.ownBlock = some w1.heap.size) :
    FaceB w2 F ab dv pv fv o ∧ FMem B w0 F ab o v1 pv fv (ds ++ dl) ps fs (w2.setCell ⟨F, 1, none⟩ v1) := by
  obtain ⟨h1, h2, h3, h4, h5, h6, h7, h8, h9, h10, h11, h12⟩ := h
  have hF := h1.cell.1
  have k2 : ∀ k, k < w1.heap.size → dv.ownBlock ≠ some k → w2.heap[k]? = w1.heap[k]? := fun k h0 h1 => hg.block k h0 (fun e => h1 e.symm)
  have k3 : ∀ k, k < w1.heap.size → k ≠ F → dv.ownBlock ≠ some k → (w2.setCell ⟨F, 1, none⟩ v1).heap[k]? = w1.heap[k]? := fun k h0 h1 h2 => (Below.heap_setCell _ _ _ k h1).trans (k2 k h0 h2)
  have hfb : FaceB w2 F ab dv pv fv o := (k2 F hF h5).trans h1
  have hv1F : v1.ownBlock ≠ some F := by
    rcases hl with e | e
    · rw [e]; exact h5
    · rw [e]; intro c; injection c with c; omega
  have hone : ∀ (g : Nat), g < w1.heap.size → dv.ownBlock ≠ some g → v1.ownBlock ≠ some g := fun g hlt hne => by
    rcases hl with e | e
    · rw [e]; exact hne
    · rw [e]; intro c; injection c with c; omega
  have hlp := fun g (e : pv.ownBlock = some g) => (World.ownsRow.lt h3 g e).2
  have hlf := fun g (e : fv.ownBlock = some g) => (World.ownsRow.lt h4 g e).2
  have hBs : B ≤ w1.heap.size := by omega
  have np : ∀ g, pv.ownBlock = some g → dv.ownBlock ≠ some g := fun g e c => h8 g c e
  have nf : ∀ g, fv.ownBlock = some g → dv.ownBlock ≠ some g := fun g e c => h9 g c e
  refine ⟨hfb, hfb.setD v1, ?_, own_kept2 h3 (fun g e => k3 g (hlp g e) (by intro c; subst c; exact h6 e) (np g e)), own_kept2 h4 (fun g e => k3 g (hlf g e) (by intro c; subst c; exact h7 e) (nf g e)), hv1F, h6, h7, ?_, ?_, h10, h11, ?_⟩
  · unfold OwnZ
    rw [List.length_append, List.map_append]
    exact own_kept2 ho (fun g e => Below.heap_setCell _ _ _ g (by intro c; have c' : g = F := c; subst c'; exact hv1F e))
  · intro g e c
    exact hone g (hlp g c) (np g c) e
  · intro g e c
    exact hone g (hlf g c) (nf g c) e
  · exact ((h12.grown hg hBs (fun j hj => (World.ownsRow.lt h2 j hj).1))).setCell (p := ⟨F, 1, none⟩) h11 _

set_option maxRecDepth 100000 in
/-- An append of one integer inside a region whose order is drawn: with the block that it lies in. -/
theorem step_append_one {w : World} {ops : Array Oper} {o : Oper} {a : Act} {K : Act → World → Prop} {Q : Exit → Act → World → Prop} {E : Prop} (hgd : o.guard = none) (s x : Operand)
    (ho : o.op = .call { callee := .builtin .append, args := #[s, x], argTypes := #[28, 28] })
    (B : Nat) (v : Value) (n : Nat) (xs : List Value) (hs : a.eval s = v) (hown : w.ownsRow B 3 1 v n xs) (g : Nat) (y : Int) (hx : a.eval x = .slice (some ⟨g, 0, none⟩) 1 1)
    (hc : w.cell? ⟨g, 0, none⟩ = some (.int .i64 y)) (hbig : n ≤ 1000000) (hbase : B ≤ w.heap.size)
    (h : ∀ v' w', w'.ownsRow B 3 1 v' (n + 1) (xs ++ [.int .i64 y]) → w.grownBy w' v.ownBlock → (v'.ownBlock = v.ownBlock ∨ v'.ownBlock = some w.heap.size) → K (a.put o.dst v') w') :
    if Region.wanted o (yielded ops a.tmps) = true then Oper.wp Tryd.prog o a w K Q else E := by
  have hw : Region.wanted o (yielded ops a.tmps) = true := by simp [Region.wanted, hgd]
  rw [if_pos hw]
  obtain ⟨i0, hi, hz0, hz1, hz2⟩ := info_parts infoInt'
  obtain ⟨v', w', hr, h2, h3, h4, h5⟩ := run_append_own_at (P := Tryd.prog) w B 28 o.type 3 i0 (.int .i64 0) 1 8 Tryd.underlying28 hi hz0 hz1 hz2 rfl (by decide) v n xs hown ⟨g, 0, none⟩ 1 1 [.int .i64 y] rfl (fun j u hj => by
    cases j with
    | zero => injection hj with hj; rw [← hj]; exact hc
    | succ j => simp at hj) (by intro u hu; rw [List.mem_singleton] at hu; subst hu; rfl) (by unfold maxLen; omega) (by omega) hbase
  unfold Oper.wp execOp
  simp only [ho, resolve, invoke, builtin, Sem.run_bind, Sem.run_pure, Result.andThen_ok, List.map_toArray, List.map_cons, List.map_nil, hs, hx, hr]
  exact h v' w' h2 h3 h5

/-- The faces so far. -/
def RfOut (D : DM) (f : Int) (w1 : World) (N : Nat) (av iv : Value) (wr : World) : Prop :=
  ∃ (j : Nat) (ts : List (Value × Value × Value)), j ≤ N ∧ iv = .int .i64 (j : Int) ∧ OwnF wr w1.heap.size av ((D.faces f).take j) ts ∧ FacesAt wr w1.heap.size ((D.faces f).take j) ts ∧ Below w1.heap.size w1 wr
/-- A face so far. -/
def RfIn (D : DM) (f : Int) (u : Bool) (wk : List Nat) (W : World) (F : Nat) (kv : Value) (wr : World) : Prop :=
  ∃ (k : Nat) (o : Bool) (dv pv fv : Value), k ≤ wk.length ∧ kv = .int .i64 (k : Int) ∧ o = (wk.take k).any D.rou ∧
    FMem W.heap.size W F u o dv pv fv (((wk.take k).flatMap D.rda).map Int.ofNat) ((wk.take k).flatMap (D.rpl f)) ((wk.take k).flatMap (D.rfz f)) wr

set_option maxHeartbeats 16000000 in
set_option maxRecDepth 100000 in
theorem refFaces_calls {D : DM} (g : D.good) {P : List (List Nat)} (hP : Fcs D P) (f : Int) (hf : f ≤ 40) (hg : ∀ l, l ∈ D.ls → 0 ≤ l.gate ∧ l.gate ≤ f) (A : Option Addr) (c : Nat) (w : World) (hL : LS w A D.n D.ls) (hpos : 0 < (D.faces f).length) :
    Calls Tryd.prog 16 #[.agg #[.int .i64 f, .slice A D.n c]] w fun e w' => ∃ G c', e = .returned (.slice (some ⟨G, 0, none⟩) (D.faces f).length c') ∧ FsF w' G (D.faces f) ∧ Below w.heap.size w w' := by
  have hn := g.ok.n1
  have HAX : Hid (∀ W, Below w.heap.size w W → Calls Tryd.prog 46 #[.agg #[.int .i64 f, .slice A D.n c]] W fun e w' => ∃ Ax cx, e = .returned (.slice Ax D.m cx) ∧ SL w' Ax D.m (D.ax.map Int.ofNat) ∧ Below W.heap.size W w') :=
    fun W hW => refAxis_calls g f A c W (hL.below hW)
  have HWK : Hid (∀ W, Below w.heap.size w W → Calls Tryd.prog 37 #[.agg #[.int .i64 f, .slice A D.n c]] W fun e w' => ∃ A' c' vals, e = .returned (.slice A' (refOut D.turn (2 * D.n + 2 * D.m) (2 * D.n + 2 * D.m)).2.length c') ∧ OwnV w' W.heap.size 28 (.slice A' (refOut D.turn (2 * D.n + 2 * D.m) (2 * D.n + 2 * D.m)).2.length c') vals ∧ vals.length = (refOut D.turn (2 * D.n + 2 * D.m) (2 * D.n + 2 * D.m)).2.length ∧
      (∀ p, p ∈ vals.zip (refOut D.turn (2 * D.n + 2 * D.m) (2 * D.n + 2 * D.m)).2 → OwnV w' W.heap.size 3 p.1 (p.2.map intV)) ∧ Below W.heap.size W w') :=
    fun W hW => refWalks_full g f A c W (hL.below hW) (fun X hX => refAxis_calls g f A c X (hL.below (hW.trans (hX.mono hW.size))))
  have HBE : Hid (∀ W i, Below w.heap.size w W → i < D.n → Calls Tryd.prog 19 #[.agg #[.int .i64 f, .slice A D.n c], .int .i64 ((i : Nat) : Int)] W fun e w' => e = .returned (.bool (!downB D.ls (i + 1))) ∧ Below W.heap.size W w') :=
    fun W i hW hi => belowF f A D.n c D.ls i W (hL.below hW) (by omega) hi
  have HPI : Hid (∀ W Ax cx j, Below w.heap.size w W → SL W Ax D.m (D.ax.map Int.ofNat) → j < D.m → Calls Tryd.prog 47 #[.agg #[.int .i64 f, .slice A D.n c], .slice Ax D.m cx, .int .i64 ((j : Nat) : Int)] W fun e w' => ∃ vp vf, e = .returned (.tuple #[vp, vf]) ∧
      OwnP w' W.heap.size vp (pcP f D.ls D.ax D.m j) ∧ OwnZ w' W.heap.size vf (pcZ f D.ls D.ax D.m j) ∧ Below W.heap.size W w') :=
    fun W Ax cx j hW hs hj => piece_calls g f hf (fun l hl _ => hg l hl) A Ax c cx j W (hL.below hW) hs hj
  have HWF : Hid (∀ wk, wk ∈ (refOut D.turn (2 * D.n + 2 * D.m) (2 * D.n + 2 * D.m)).2 → ∃ h, WkF D wk h) := fun wk h => walk_facts g hP h
  have HFR : Hid ((refOut D.turn (2 * D.n + 2 * D.m) (2 * D.n + 2 * D.m)).2.map (D.rface f) = D.faces f) := faces_ref g f hP
  have HGT : Hid (∀ l, l ∈ D.ls → 0 ≤ l.gate ∧ l.gate ≤ f) := hg
  have hmn : D.m ≤ D.n := by
    have h2 := cntB_take_le isPass D.ls D.n
    rw [List.take_of_length_le (by rw [g.ok.ls]; omega), g.npass] at h2
    omega
  obtain ⟨ws, hws⟩ : ∃ ws, (refOut D.turn (2 * D.n + 2 * D.m) (2 * D.n + 2 * D.m)).2 = ws := ⟨_, rfl⟩
  rw [hws] at HWK HWF HFR
  have hN2 : (D.faces f).length ≤ 2000 := (faces_small g hP hf hg).1
  have hwl : ws.length = (D.faces f).length := by rw [← HFR.out, List.length_map]
  rw [hwl] at HWK
  obtain ⟨N, hN⟩ : ∃ N, (D.faces f).length = N := ⟨_, rfl⟩
  rw [hN] at HWK hpos hwl hN2 ⊢
  have HNL := Lib.hid hN
  have HWL := Lib.hid hwl
  obtain ⟨n, hnn⟩ : ∃ n, D.n = n := ⟨_, rfl⟩
  obtain ⟨m, hmm⟩ : ∃ m, D.m = m := ⟨_, rfl⟩
  rw [hnn] at HAX HWK HBE HPI hn hmn ⊢
  rw [hmm] at HAX HPI hmn
  have HNM := Lib.hid (And.intro hnn hmm)
  clear hws hN hwl hnn hmm hL hg hP g
  go_enter Tryd.func16, Tryd.ntmps16
  go_wp2_with fail
  obtain ⟨W0, hW0⟩ : ∃ W0, W0 = w.alloc (.cells #[.int .i64 f, .slice A n c] 33) := ⟨_, rfl⟩
  have HB0 : Hid (Below w.heap.size w W0) := by rw [hW0]; exact (Below.refl _ _).alloc (Nat.le_refl _) _
  have HP0 : Hid (W0.heap[w.heap.size]? = some (.cells #[.int .i64 f, .slice A n c] 33 (0, 0))) := by rw [hW0]; exact heap_alloc_new w _
  rw [← hW0]
  clear hW0
  refine (HAX.out _ HB0.out).mono ?_
  rintro e w1 ⟨Ax, cx, rfl, hs1, hb⟩
  have HB1 : Hid (Below w.heap.size w w1) := HB0.out.trans (hb.mono HB0.out.size)
  have HP1 : Hid (w1.heap[w.heap.size]? = some (.cells #[.int .i64 f, .slice A n c] 33 (0, 0))) := (hb.block _ (heap_ltF HP0.out)).trans HP0.out
  have HS1 := Lib.hid hs1
  clear hb HB0 HP0 hs1
  have a0 := Lib.cell_of_heap HP1.out 0
  have a1 := Lib.cell_of_heap HP1.out 1
  go_wp2_with fail
  refine (HWK.out _ HB1.out).mono ?_
  rintro e w2 ⟨Aw, cw, vals, rfl, hov, hvl, hvs, hb⟩
  have HB2 : Hid (Below w.heap.size w w2) := HB1.out.trans (hb.mono HB1.out.size)
  have HP2 : Hid (w2.heap[w.heap.size]? = some (.cells #[.int .i64 f, .slice A n c] 33 (0, 0))) := (hb.block _ (heap_ltF HP1.out)).trans HP1.out
  have HS2 := Lib.hid (HS1.out.below hb)
  have HOV := Lib.hid hov
  have HVL := Lib.hid hvl
  have HVS := Lib.hid hvs
  clear hb HB1 HP1 HS1 hov hvl hvs a0 a1
  have a0 := Lib.cell_of_heap HP2.out 0
  have a1 := Lib.cell_of_heap HP2.out 1
  go_wp2_with fail
  obtain ⟨gw, rfl⟩ : ∃ gw, Aw = some ⟨gw, 0, none⟩ := by
    rcases HOV.out.2 with ⟨hv, h0⟩ | ⟨g, cap, cur, hv, _⟩
    · have h1 := HVL.out
      omega
    · injection hv with e1
      exact ⟨g, e1⟩
  have HST : Hid (RfOut D f w2 N (.slice none 0 0) (.int .i64 0) w2) := ⟨0, [], Nat.zero_le _, rfl, World.ownsRow_nil _ _ _ _, ⟨rfl, fun k M t hM => by simp at hM⟩, Below.refl _ _⟩
  clear a0 a1
  go_loopw [3, 7] (fun av iv wr => RfOut D f w2 N av iv wr) (fun _ iv _ => N - (intOf iv).toNat)
  case atStart => exact HST.out
  case round =>
    obtain ⟨j, ts, hj, rfl, hof, hfa, hb⟩ := hrel
    have HTL : Hid (((D.faces f).take j).length = j) := by unfold Hid; rw [List.length_take, HNL.out]; omega
    obtain ⟨Aj, cj, hav⟩ := own_form hof
    rw [HTL.out] at hav
    subst hav
    have HFF := Lib.hid hof
    have HFA := Lib.hid hfa
    have HB := Lib.hid hb
    have hbs := hb.size
    clear hof hfa hb
    by_cases hlt : j < N
    · obtain ⟨wk, hwk⟩ : ∃ wk, ws[j]? = some wk := ⟨_, List.getElem?_eq_getElem (by rw [HWL.out]; exact hlt)⟩
      obtain ⟨v, hv⟩ : ∃ v, vals[j]? = some v := ⟨_, List.getElem?_eq_getElem (by rw [HVL.out]; exact hlt)⟩
      have hz : (v, wk) ∈ vals.zip ws := List.mem_of_getElem? (i := j) (by rw [List.getElem?_zip_eq_some]; exact ⟨hv, hwk⟩)
      obtain ⟨h0, hK⟩ := HWF.out wk (List.mem_of_getElem? hwk)
      have HK := Lib.hid hK
      have hvo := (HVS.out _ hz).below HB.out
      obtain ⟨Ak, ck, hvf⟩ := own_form hvo
      dsimp only at hvo hvf
      rw [hvf] at hvo
      obtain ⟨lw, hlw⟩ : ∃ lw, wk.length = lw := ⟨_, rfl⟩
      rw [List.length_map, hlw] at hvo hvf
      have hsl : SL wr Ak lw (wk.map Int.ofNat) := hvo.slN hlw
      have hlw4 : lw ≤ 4000 := by rw [← hlw]; exact hK.len
      have hlw0 : 0 < lw := by have := (List.getElem?_eq_some_iff.1 hK.hd).1; omega
      obtain ⟨bx, ox, x0, hAk, hbx, hx0, cx0⟩ := hsl.at_ (k := 0) hlw0
      subst hAk
      rw [Nat.add_zero] at cx0
      have HSL := Lib.hid hsl
      have HLW := Lib.hid hlw
      obtain rfl : x0 = (h0 : Int) := by
        rw [List.getElem?_map, hK.hd] at hx0
        injection hx0 with hx0
        exact hx0.symm
      have hpc : wr.cell? ⟨gw, j, none⟩ = some (.slice (some ⟨bx, ox, none⟩) lw ck) := by
        obtain ⟨y, hy, hc, _⟩ := OwnV.cell (HOV.out.below HB.out) (k := j) hlt
        rw [hv] at hy
        injection hy with hy
        rw [hc, ← hy, hvf]
      have hP2 := (HB.out.block _ (heap_ltF HP2.out)).trans HP2.out
      have HP := Lib.hid hP2
      have a0 := Lib.cell_of_heap hP2 0
      have a1 := Lib.cell_of_heap hP2 1
      have hPl := heap_ltF hP2
      obtain ⟨g0, hg0⟩ : ∃ g, h0 / 2 = g := ⟨_, rfl⟩
      have hg0n : g0 < n := by have := hK.hlt; have := HNM.out.1; omega
      have hh0 : h0 < 10000 := by have := hK.hlt; have := HNM.out.1; omega
      have e4 : (h0 : Int).tdiv 2 = (g0 : Int) := by rw [Int.tdiv_eq_ediv_of_nonneg (by omega)]; omega
      have e5 : IntKind.i64.wrap (g0 : Int) = (g0 : Int) := wrapI (by omega) (by omega)
      have e6 : IntKind.i64.wrap ((h0 : Int).tdiv 2) = (g0 : Int) := by rw [e4]; exact e5
      have HBW : Hid (Below w.heap.size w wr) := HB2.out.trans (HB.out.mono HB2.out.size)
      obtain ⟨nb, hnb⟩ : ∃ nb, (!downB D.ls (g0 + 1)) = nb := ⟨_, rfl⟩
      have HBC : Hid (∀ W, Below w.heap.size w W → Calls Tryd.prog 19 #[.agg #[.int .i64 f, .slice A n c], .int .i64 (g0 : Int)] W fun e w' => e = .returned (.bool nb) ∧ Below W.heap.size W w') := by
        intro W hW
        have h1 := HBE.out W g0 hW hg0n
        rw [hnb] at h1
        exact h1
      have HNB : Hid (downB D.ls (wk.headD 0 / 2 + 1) = !nb) := by
        unfold Hid
        have e1 : wk.headD 0 = h0 := by
          have := hK.hd
          cases wk with
          | nil => cases this
          | cons y ys => injection this
        rw [e1, hg0, ← hnb, Bool.not_not]
      have HTK : Hid ((D.faces f).take (j + 1) = (D.faces f).take j ++ [D.rface f wk]) := by
        unfold Hid
        rw [List.take_add_one, ← HFR.out, List.getElem?_map, hwk]
        rfl
      have hji : (j : Int) < N := by omega
      clear hwk hv hz hvo hvf hsl hlw hx0 hnb hK hP2 hg0
      go_wp2_with fail
      go_cut [9] (fun fv wx => ∃ F, fv = .pointer (some ⟨F, 0, none⟩) ∧ FMem wr.heap.size wr F (!nb) false (.slice none 0 0) (.slice none 0 0) (.slice none 0 0) [] [] [] wx)
      case first =>
        have hNil : ∀ W B, OwnZ W B (.slice none 0 0) [] := fun W B => World.ownsRow_nil _ _ _ _
        go_region_with (first
          | (go_at_call 19; refine (HBC.out _ HBW.out.drew).mono ?_; rintro e w3 ⟨rfl, hbw⟩; have HR := Lib.hid (FMem.new (u := !nb) ((Below.refl wr.heap.size wr).drew.trans (hbw.mono (Nat.le_refl _))) (hNil w3 wr.heap.size) (Nat.le_refl _) hbw.size))
          | (go_at_call 19; (refine (HBC.out _ ((HBW.out.alloc HBW.out.size _).drew)).mono ?_; rintro e w3 ⟨rfl, hbw⟩; have hsz1 : wr.heap.size < w3.heap.size := (by have := hbw.size; simp at this; omega); have HR := Lib.hid (FMem.new2 (u := !nb) ((((Below.refl wr.heap.size wr).alloc (Nat.le_refl _) _).drew).trans (hbw.mono (by show wr.heap.size ≤ (wr.alloc _).heap.size; simp))) (hNil w3 w3.heap.size) (Nat.le_refl _) hsz1 ((hbw.block wr.heap.size (by show wr.heap.size < (wr.alloc _).heap.size; simp)).trans (heap_alloc_new wr _))); obtain ⟨y0, y1, y2, y3, y4, y5, y6, y7, y8, y9⟩ := newFace hbw)))
        all_goals
          go_wp2_with fail
          go_meet
          case rel => exact ⟨_, rfl, HR.out⟩
      case rest =>
        obtain ⟨F, rfl, hfm⟩ := hcut
        have HFM := Lib.hid hfm
        clear hfm e4 e5 e6 hpc cx0
        obtain ⟨V, rfl⟩ : ∃ V, V = wr := ⟨_, rfl⟩
        have HST2 : Hid (RfIn D f (!nb) wk V F (.int .i64 0) wc) := ⟨0, false, _, _, _, Nat.zero_le _, rfl, rfl, HFM.out⟩
        go_wp2_with fail
        go_loopw [10] (fun kv wx => RfIn D f (!nb) wk V F kv wx) (fun kv _ => lw - (intOf kv).toNat)
        case atStart => exact HST2.out
        case round =>
          obtain ⟨k, o, dv, pv, fv, hk, rfl, ho, hfm⟩ := hrel
          rw [HLW.out] at hk
          have HM1 := Lib.hid hfm
          have HO := Lib.hid ho
          have HBV : Hid (Below V.heap.size V wr) := hfm.2.2.2.2.2.2.2.2.2.2.2
          have HBX : Hid (Below w.heap.size w wr) := HBW.out.trans (HBV.out.mono HBW.out.size)
          obtain ⟨hF, n0, n1, n2, n3, n4, n5⟩ := hfm.1.cell
          have hbs1 := HBV.out.size
          clear hfm ho
          by_cases hkl : k < lw
          · obtain ⟨bx', ox', x, hA, hbx2, hx, cdd⟩ := (HSL.out.below HBV.out).at_ hkl
            obtain ⟨rfl, rfl⟩ : bx = bx' ∧ ox = ox' := by injection hA with hA; injection hA with e1 e2; exact ⟨e1, e2⟩
            obtain ⟨d, hd, rfl⟩ : ∃ d : Nat, wk[k]? = some d ∧ x = (d : Int) := by
              rw [List.getElem?_map] at hx
              cases hh : wk[k]? with
              | none => rw [hh] at hx; cases hx
              | some y => rw [hh] at hx; injection hx with hx; exact ⟨y, rfl, hx.symm⟩
            have HTW : Hid (wk.take (k + 1) = wk.take k ++ [d]) := by unfold Hid; rw [List.take_add_one, hd]; rfl
            have hdb := HK.out.mem d (List.mem_of_getElem? hd)
            rw [HNM.out.1, HNM.out.2] at hdb
            have hki : (k : Int) < lw := by omega
            have hmul : IntKind.i64.wrap (2 * (n : Int)) = 2 * (n : Int) := wrapI (by omega) (by omega)
            have hP3 := (HBV.out.block _ hPl).trans HP.out
            have b0 := Lib.cell_of_heap hP3 0
            have b1 := Lib.cell_of_heap hP3 1
            have hPl2 := heap_ltF hP3
            obtain ⟨xs, hxs⟩ : ∃ xs, ((wk.take k).flatMap D.rda).map Int.ofNat = xs := ⟨_, rfl⟩
            obtain ⟨ps, hps⟩ : ∃ ps, (wk.take k).flatMap (D.rpl f) = ps := ⟨_, rfl⟩
            obtain ⟨fs, hfs⟩ : ∃ fs, (wk.take k).flatMap (D.rfz f) = fs := ⟨_, rfl⟩
            have hxl : xs.length ≤ 4000 := by
              have h1 := rda_len D (wk.take k)
              rw [← hxs, List.length_map]
              rw [List.length_take, HLW.out] at h1
              omega
            have hpl : ps.length ≤ 400000 := by
              have h1 := rpl_len hf HGT.out (wk.take k)
              rw [← hps]
              rw [List.length_take, HLW.out] at h1
              omega
            have hfl : fs.length ≤ 400000 := by
              have h1 := rfz_len hf HGT.out (wk.take k)
              rw [← hfs]
              rw [List.length_take, HLW.out] at h1
              omega
            rw [hxs, hps, hfs] at HM1
            have HEX := Lib.hid (And.intro hxs (And.intro hps hfs))
            obtain ⟨Ad, cd, hdv⟩ := own_form HM1.out.2.1
            obtain ⟨dl, hdl⟩ : ∃ dl, xs.length = dl := ⟨_, rfl⟩
            rw [hdl] at hdv
            subst hdv
            have n51 := n5 1
            have n52 := n5 2
            have n53 := n5 3
            have n54 := n5 4
            clear hx hA hd hxs hps hfs hP3
            by_cases hd : d < 2 * n
            · have hdi : (d : Int) < 2 * (n : Int) := by omega
              have HWOW : Hid (∀ W1, Below wr.heap.size wr W1 → W1.ownsRow V.heap.size 3 1 (.slice Ad dl cd) dl (xs.map (Value.int .i64))) := by
                intro W1 hW1
                have h1 := ownsRow_below HM1.out.2.1 hW1
                rw [hdl] at h1
                exact h1
              have HADD : Hid (∀ W1 v' w3, Below wr.heap.size wr W1 → W1.grownBy w3 (Value.ownBlock (.slice Ad dl cd)) → w3.ownsRow V.heap.size 3 1 v' (dl + 1) (xs.map (Value.int .i64) ++ [.int .i64 (d : Int)]) → (v'.ownBlock = (Value.ownBlock (.slice Ad dl cd)) ∨ v'.ownBlock = some W1.heap.size) →
                  FaceB w3 F (!nb) (.slice Ad dl cd) pv fv o ∧ FMem V.heap.size V F (!nb) o v' pv fv (xs ++ [(d : Int)]) ps fs (w3.setCell ⟨F, 1, none⟩ v')) := by
                intro W1 v' w3 h0 h1 h2 h3
                exact (HM1.out.below h0).addD (dl := [(d : Int)]) (by rw [hdl]; exact h2) h1 h3
              have HR : Hid (∀ v' w3, FMem V.heap.size V F (!nb) o v' pv fv (xs ++ [(d : Int)]) ps fs w3 → RfIn D f (!nb) wk V F (.int .i64 ((k : Int) + 1)) w3) := by
                intro v' w3 h1
                have e1 : D.rda d = [d] := by unfold DM.rda; rw [if_pos (by rw [HNM.out.1]; exact hd)]
                have e2 : D.rpl f d = [] := by unfold DM.rpl; rw [if_pos (by rw [HNM.out.1]; exact hd)]
                have e3 : D.rfz f d = [] := by unfold DM.rfz; rw [if_pos (by rw [HNM.out.1]; exact hd)]
                have e4 : D.rou d = false := by unfold DM.rou; rw [if_pos (by rw [HNM.out.1]; exact hd)]
                refine ⟨k + 1, o, v', pv, fv, by rw [HLW.out]; omega, by rw [Int.natCast_add]; rfl, ?_, ?_⟩
                · rw [HTW.out, List.any_append, ← HO.out]; simp [e4]
                · rw [HTW.out, flat_snoc, flat_snoc, flat_snoc, e1, e2, e3, List.append_nil, List.append_nil, List.map_append, HEX.out.1, HEX.out.2.1, HEX.out.2.2]
                  exact h1
              have hbw : V.heap.size ≤ wr.heap.size := hbs1
              have hdl4 : dl ≤ 1000000 := by omega
              have HDA : Hid (∀ o, Below wr.heap.size wr (wr.drew.alloc o)) := fun o => ((Below.refl wr.heap.size wr).drew).alloc (Nat.le_refl _) o
              have HDC : Hid (∀ Ty, (wr.drew.alloc (.cells #[.int .i64 (d : Int)] Ty)).cell? ⟨wr.heap.size, 0, none⟩ = some (.int .i64 (d : Int))) := fun Ty => cell_one_new wr.drew (.int .i64 (d : Int)) Ty 0 _ rfl
              clear hxl
              go_wp2_with fail
              go_region_law (first
                | (refine step_append_one rfl (.tmp 53) (.tmp 58) rfl V.heap.size (.slice Ad dl cd) dl (xs.map (Value.int .i64)) (by kernel_rfl) (HWOW.out _ (HDA.out _)) wr.heap.size (d : Int) (by kernel_rfl) (HDC.out _) hdl4 (Nat.le_trans hbw (HDA.out _).size) ?_; intro v' w3 hown3 hgr3 hloc; obtain ⟨A3, c3, rfl⟩ := own_form hown3; have H3 := Lib.hid (HADD.out _ _ _ (HDA.out _) hgr3 hown3 hloc); obtain ⟨hF3, m0, m1, m2, m3, m4, m5⟩ := H3.out.1.cell; have m51 := m5 1; clear hown3 hgr3 hloc m5))
              all_goals
                have HRR := Lib.hid (HR.out _ _ H3.out.2)
                clear HR
                go_wp2_with fail
                go_roundw
                case rel => exact HRR.out
                case measure => simp [intOf]; omega
            · have hdi : ¬ (d : Int) < 2 * (n : Int) := by omega
              obtain ⟨e, he⟩ : ∃ e, d - 2 * n = e := ⟨_, rfl⟩
              obtain ⟨q, hq⟩ : ∃ q, e / 2 = q := ⟨_, rfl⟩
              have hqm : q < m := by omega
              have s1 : (d : Int) - 2 * (n : Int) = (e : Int) := by omega
              have s2 : IntKind.i64.wrap ((d : Int) - 2 * (n : Int)) = (e : Int) := by rw [s1]; exact wrapI (by omega) (by omega)
              have s4 : (e : Int).tdiv 2 = (q : Int) := by rw [Int.tdiv_eq_ediv_of_nonneg (by omega)]; omega
              have s5 : IntKind.i64.wrap ((e : Int).tdiv 2) = (q : Int) := by rw [s4]; exact wrapI (by omega) (by omega)
              have t0 : IntKind.i64.wrap ((m : Int) - 1) = (m : Int) - 1 := wrapI (by omega) (by omega)
              have HPC := Lib.hid (HPI.out wr Ax cx q HBX.out ((HS2.out.below HB.out).below HBV.out) hqm)
              obtain ⟨pl0, hpl0⟩ : ∃ y, pcP f D.ls D.ax m q = y := ⟨_, rfl⟩
              obtain ⟨fl0, hfl0⟩ : ∃ y, pcZ f D.ls D.ax m q = y := ⟨_, rfl⟩
              have hpz := pc_len (ls := D.ls) (ax := D.ax) (m := m) (j := q) hf HGT.out
              rw [hpl0, hfl0] at HPC hpz
              have HRD : Hid (D.rda d = [] ∧ D.rpl f d = (if e % 2 = 0 then pl0 else pl0.reverse) ∧ D.rfz f d = (if e % 2 = 0 then fl0 else fl0.reverse) ∧ D.rou d = decide (q + 1 = m)) := by
                have hnd : ¬ d < 2 * D.n := by rw [HNM.out.1]; exact hd
                have hq2 : (d - 2 * D.n) / 2 = q := by rw [HNM.out.1, he]; exact hq
                refine ⟨by unfold DM.rda; rw [if_neg hnd], ?_, ?_, ?_⟩
                · unfold DM.rpl; rw [if_neg hnd, hq2, HNM.out.2, hpl0]; split <;> split <;> first | rfl | omega
                · unfold DM.rfz; rw [if_neg hnd, hq2, HNM.out.2, hfl0]; split <;> split <;> first | rfl | omega
                · unfold DM.rou; rw [if_neg hnd, hq2, HNM.out.2]
              obtain ⟨pl, hpl'⟩ : ∃ y, (if e % 2 = 0 then pl0 else pl0.reverse) = y := ⟨_, rfl⟩
              obtain ⟨fl, hfl'⟩ : ∃ y, (if e % 2 = 0 then fl0 else fl0.reverse) = y := ⟨_, rfl⟩
              rw [hpl', hfl'] at HRD
              have hpll : pl.length ≤ 82 := by rw [← hpl']; split <;> (try rw [List.length_reverse]) <;> omega
              have hfll : fl.length ≤ 82 := by rw [← hfl']; split <;> (try rw [List.length_reverse]) <;> omega
              have HR : Hid (∀ v1 v2 o' w', o' = (o || decide (q + 1 = m)) → FMem V.heap.size V F (!nb) o' (.slice Ad dl cd) v1 v2 xs (ps ++ pl) (fs ++ fl) w' → RfIn D f (!nb) wk V F (.int .i64 ((k : Int) + 1)) w') := by
                intro v1 v2 o' w' ho' h1
                refine ⟨k + 1, o', .slice Ad dl cd, v1, v2, by rw [HLW.out]; omega, by rw [Int.natCast_add]; rfl, ?_, ?_⟩
                · rw [HTW.out, List.any_append, ← HO.out, ho']; simp [HRD.out.2.2.2]
                · rw [HTW.out, flat_snoc, flat_snoc, flat_snoc, HRD.out.1, HRD.out.2.1, HRD.out.2.2.1, List.append_nil, HEX.out.1, HEX.out.2.1, HEX.out.2.2]
                  exact h1
              have HC : o = true ∨ (o = false ∧ q + 1 = m) ∨ (o = false ∧ ¬ q + 1 = m) := by
                cases o
                · by_cases hqq : q + 1 = m
                  · exact .inr (.inl ⟨rfl, hqq⟩)
                  · exact .inr (.inr ⟨rfl, hqq⟩)
                · exact .inl rfl
              clear HRD hpl0 hfl0 hxl
              go_wp2_with fail
              refine HPC.out.mono ?_
              rintro e0 w3 ⟨vp, vf, rfl, hvp, hvf, hb3⟩
              have HM3 := Lib.hid (HM1.out.below hb3)
              have hb3s := hb3.size
              have cd3 := (hb3.cell (p := ⟨bx, ox + k, none⟩) hbx2).trans cdd
              have hbx3 : bx < w3.heap.size := Nat.lt_of_lt_of_le hbx2 hb3s
              have hpvl := fun g (e : pv.ownBlock = some g) => (World.ownsRow.lt HM1.out.2.2.1 g e).2
              have hFw := HM1.out.1.cell.1
              clear n0 n1 n2 n3 n4 n51 n52 n53 n54 n5 b0 b1 hb3 cdd hF
              by_cases hpar : e % 2 = 0
              · have r1 : (d : Int).tmod 2 = 0 := by rw [Int.tmod_eq_emod_of_nonneg (by omega)]; omega
                have r2 : IntKind.i64.wrap ((d : Int).tmod 2) = 0 := by rw [r1]; exact wrapI (by omega) (by omega)
                rw [if_pos hpar] at hpl' hfl'
                subst hpl'
                subst hfl'
                obtain ⟨pl, hpl'⟩ : ∃ y, y = pl0 := ⟨_, rfl⟩
                obtain ⟨fl, hfl'⟩ : ∃ y, y = fl0 := ⟨_, rfl⟩
                subst hpl'
                subst hfl'
                have HVP : Hid (w3.ownsRow wr.heap.size 69 2 vp pl.length (placeVs pl)) := hvp
                have HVF : Hid (w3.ownsRow wr.heap.size 3 1 vf fl.length (fl.map (Value.int .i64))) := hvf
                have HSEP : Hid (∀ g, vf.ownBlock = some g → g < w3.heap.size ∧ g ≠ F ∧ pv.ownBlock ≠ some g) := by
                  intro g e
                  have h1 := World.ownsRow.lt hvf g e
                  refine ⟨h1.2, by omega, fun c => ?_⟩
                  have h2 := hpvl g c
                  omega
                clear hvp hvf
                have hBw : V.heap.size ≤ w3.heap.size := by omega
                obtain ⟨hF1, p0, p1, p2, p3, p4, p5⟩ := HM3.out.1.cell
                have p52 := p5 2
                have p53 := p5 3
                clear p5
                obtain ⟨i0, hi, hz0, hz1, hz2⟩ := info_parts infoPlace
                obtain ⟨k0, ki, kz0, kz1, kz2⟩ := info_parts infoInt'
                rcases HC with rfl | ⟨rfl, hqq⟩ | ⟨rfl, hqq⟩
                · have hqi : (0 : Int) < (m : Int) := by omega
                  go_wp2_with (first
                    | (at_builtin; refine wpList_append_src _ rfl _ _ 43 rfl V.heap.size 69 i0 (.agg #[.int .i64 0, .int .i64 0]) 2 16 Tryd.underlying43 hi hz0 hz1 hz2 rfl (by decide) pv ps.length _ rfl HM3.out.2.2.1 vp _ pl.length _ rfl HVP.out (placeVs_one _) (by unfold maxLen; omega) (by omega) hBw ?_; intro v1 wA ho1 hg1 hl1; obtain ⟨A1, c1, rfl⟩ := own_form ho1; have H1 := Lib.hid (HM3.out.addP ho1 hg1 hl1); obtain ⟨hF2, m0, m1, m2, m3, m4, m5⟩ := H1.out.1.cell; have m5a := m5 2; have m5b := m5 3; have hs2 : w3.heap.size ≤ wA.heap.size := hg1.size; have HVF2 : Hid ((wA.setCell ⟨F, 2, none⟩ (.slice A1 (ps.length + pl.length) c1)).ownsRow wr.heap.size 3 1 vf fl.length (fl.map (Value.int .i64))) := own_kept2 HVF.out (fun g e => H1.out.2.2.1 g (HSEP.out g e).1 (HSEP.out g e).2.1 (HSEP.out g e).2.2); clear ho1 hg1 hl1 m5)
                    | (at_builtin; refine wpList_append_src _ rfl _ _ 28 rfl V.heap.size 3 k0 (.int .i64 0) 1 8 Tryd.underlying28 ki kz0 kz1 kz2 rfl (by decide) fv fs.length _ rfl H1.out.2.1.2.2.2.1 vf _ fl.length _ rfl HVF2.out (ints_one _) (by unfold maxLen; omega) (by omega) (by simp; omega) ?_; intro v3 wB ho3 hg3 hl3; obtain ⟨A3, c3, rfl⟩ := own_form ho3; have hs4 : wA.heap.size ≤ wB.heap.size := (by have := hg3.size; simpa using this); have H3 := Lib.hid (H1.out.2.1.addZ ho3 hg3 hl3); obtain ⟨hF4, r0, r1, r2, r3, r4, r5⟩ := H3.out.1.cell; have r5b := r5 3; have r5c := r5 4; clear ho3 hg3 hl3 r5))
                  go_roundw
                  case rel => exact HR.out _ _ true _ (by simp) (H3.out.2.1.setO true)
                  case measure => simp [intOf]; omega
                · have hqi : (q : Int) = (m : Int) - 1 := by omega
                  go_wp2_with (first
                    | (at_builtin; refine wpList_append_src _ rfl _ _ 43 rfl V.heap.size 69 i0 (.agg #[.int .i64 0, .int .i64 0]) 2 16 Tryd.underlying43 hi hz0 hz1 hz2 rfl (by decide) pv ps.length _ rfl HM3.out.2.2.1 vp _ pl.length _ rfl HVP.out (placeVs_one _) (by unfold maxLen; omega) (by omega) hBw ?_; intro v1 wA ho1 hg1 hl1; obtain ⟨A1, c1, rfl⟩ := own_form ho1; have H1 := Lib.hid (HM3.out.addP ho1 hg1 hl1); obtain ⟨hF2, m0, m1, m2, m3, m4, m5⟩ := H1.out.1.cell; have m5a := m5 2; have m5b := m5 3; have hs2 : w3.heap.size ≤ wA.heap.size := hg1.size; have HVF2 : Hid ((wA.setCell ⟨F, 2, none⟩ (.slice A1 (ps.length + pl.length) c1)).ownsRow wr.heap.size 3 1 vf fl.length (fl.map (Value.int .i64))) := own_kept2 HVF.out (fun g e => H1.out.2.2.1 g (HSEP.out g e).1 (HSEP.out g e).2.1 (HSEP.out g e).2.2); clear ho1 hg1 hl1 m5)
                    | (at_builtin; refine wpList_append_src _ rfl _ _ 28 rfl V.heap.size 3 k0 (.int .i64 0) 1 8 Tryd.underlying28 ki kz0 kz1 kz2 rfl (by decide) fv fs.length _ rfl H1.out.2.1.2.2.2.1 vf _ fl.length _ rfl HVF2.out (ints_one _) (by unfold maxLen; omega) (by omega) (by simp; omega) ?_; intro v3 wB ho3 hg3 hl3; obtain ⟨A3, c3, rfl⟩ := own_form ho3; have hs4 : wA.heap.size ≤ wB.heap.size := (by have := hg3.size; simpa using this); have H3 := Lib.hid (H1.out.2.1.addZ ho3 hg3 hl3); obtain ⟨hF4, r0, r1, r2, r3, r4, r5⟩ := H3.out.1.cell; have r5b := r5 3; have r5c := r5 4; clear ho3 hg3 hl3 r5))
                  go_roundw
                  case rel => exact HR.out _ _ true _ (by simp [hqq]) (H3.out.2.1.setO true)
                  case measure => simp [intOf]; omega
                · have hqi : ¬ (q : Int) = (m : Int) - 1 := by omega
                  go_wp2_with (first
                    | (at_builtin; refine wpList_append_src _ rfl _ _ 43 rfl V.heap.size 69 i0 (.agg #[.int .i64 0, .int .i64 0]) 2 16 Tryd.underlying43 hi hz0 hz1 hz2 rfl (by decide) pv ps.length _ rfl HM3.out.2.2.1 vp _ pl.length _ rfl HVP.out (placeVs_one _) (by unfold maxLen; omega) (by omega) hBw ?_; intro v1 wA ho1 hg1 hl1; obtain ⟨A1, c1, rfl⟩ := own_form ho1; have H1 := Lib.hid (HM3.out.addP ho1 hg1 hl1); obtain ⟨hF2, m0, m1, m2, m3, m4, m5⟩ := H1.out.1.cell; have m5a := m5 2; have m5b := m5 3; have hs2 : w3.heap.size ≤ wA.heap.size := hg1.size; have HVF2 : Hid ((wA.setCell ⟨F, 2, none⟩ (.slice A1 (ps.length + pl.length) c1)).ownsRow wr.heap.size 3 1 vf fl.length (fl.map (Value.int .i64))) := own_kept2 HVF.out (fun g e => H1.out.2.2.1 g (HSEP.out g e).1 (HSEP.out g e).2.1 (HSEP.out g e).2.2); clear ho1 hg1 hl1 m5)
                    | (at_builtin; refine wpList_append_src _ rfl _ _ 28 rfl V.heap.size 3 k0 (.int .i64 0) 1 8 Tryd.underlying28 ki kz0 kz1 kz2 rfl (by decide) fv fs.length _ rfl H1.out.2.1.2.2.2.1 vf _ fl.length _ rfl HVF2.out (ints_one _) (by unfold maxLen; omega) (by omega) (by simp; omega) ?_; intro v3 wB ho3 hg3 hl3; obtain ⟨A3, c3, rfl⟩ := own_form ho3; have hs4 : wA.heap.size ≤ wB.heap.size := (by have := hg3.size; simpa using this); have H3 := Lib.hid (H1.out.2.1.addZ ho3 hg3 hl3); obtain ⟨hF4, r0, r1, r2, r3, r4, r5⟩ := H3.out.1.cell; have r5b := r5 3; have r5c := r5 4; clear ho3 hg3 hl3 r5))
                  go_roundw
                  case rel =>
                    refine HR.out _ _ _ _ ?_ (H3.out.2.1.setO _)
                    simp [hqi, hqq]
                  case measure => simp [intOf]; omega
              · have r1 : (d : Int).tmod 2 = 1 := by rw [Int.tmod_eq_emod_of_nonneg (by omega)]; omega
                have r2 : IntKind.i64.wrap ((d : Int).tmod 2) = 1 := by rw [r1]; exact wrapI (by omega) (by omega)
                rw [if_neg hpar] at hpl' hfl'
                obtain ⟨Ap, cp, hvpf⟩ := own_form hvp
                obtain ⟨Af, cf, hvff⟩ := own_form hvf
                subst hvpf
                subst hvff
                have HTU := Lib.hid (turned_calls Ap pl0.length cp pl0 w3 hvp.sp (by omega))
                have HRV : Hid (∀ W, Below w3.heap.size w3 W → Calls Tryd.prog 49 #[.slice Af fl0.length cf] W fun e w' => ∃ v, e = .returned v ∧ OwnZ w' W.heap.size v fl ∧ Below W.heap.size W w') := by
                  intro W hW
                  have h1 := revZ_calls Af fl0.length cf fl0 W ((SL.of_own hvf).below hW) (by omega)
                  rw [hfl'] at h1
                  exact h1
                rw [hpl'] at HTU
                clear hvp hvf hpl' hfl'
                go_wp2_with fail
                refine HTU.out.mono ?_
                rintro e1 w4 ⟨vq, rfl, hvq, hb4⟩
                have HM4 := Lib.hid (HM3.out.below hb4)
                have hb4s := hb4.size
                have HB4 := Lib.hid hb4
                clear hb4
                go_wp2_with fail
                refine (HRV.out _ HB4.out).mono ?_
                rintro e2 w5 ⟨vg, rfl, hvg, hb5⟩
                have HM3 := Lib.hid (HM4.out.below hb5)
                have hb5s := hb5.size
                have HVP : Hid (w5.ownsRow w3.heap.size 69 2 vq pl.length (placeVs pl)) := OwnP.below hvq hb5
                have HVF : Hid (w5.ownsRow w4.heap.size 3 1 vg fl.length (fl.map (Value.int .i64))) := hvg
                have HSEP : Hid (∀ g, vg.ownBlock = some g → g < w5.heap.size ∧ g ≠ F ∧ pv.ownBlock ≠ some g) := by
                  intro g e
                  have h1 := World.ownsRow.lt hvg g e
                  refine ⟨h1.2, by omega, fun c => ?_⟩
                  have h2 := hpvl g c
                  omega
                clear hvq hvg hb5 HM4 HB4
                have hBw : V.heap.size ≤ w5.heap.size := by omega
                obtain ⟨hF1, p0, p1, p2, p3, p4, p5⟩ := HM3.out.1.cell
                have p52 := p5 2
                have p53 := p5 3
                clear p5
                obtain ⟨i0, hi, hz0, hz1, hz2⟩ := info_parts infoPlace
                obtain ⟨k0, ki, kz0, kz1, kz2⟩ := info_parts infoInt'
                rcases HC with rfl | ⟨rfl, hqq⟩ | ⟨rfl, hqq⟩
                · have hqi : (0 : Int) < (m : Int) := by omega
                  go_wp2_with (first
                    | (at_builtin; refine wpList_append_src _ rfl _ _ 43 rfl V.heap.size 69 i0 (.agg #[.int .i64 0, .int .i64 0]) 2 16 Tryd.underlying43 hi hz0 hz1 hz2 rfl (by decide) pv ps.length _ rfl HM3.out.2.2.1 vq _ pl.length _ rfl HVP.out (placeVs_one _) (by unfold maxLen; omega) (by omega) hBw ?_; intro v1 wA ho1 hg1 hl1; obtain ⟨A1, c1, rfl⟩ := own_form ho1; have H1 := Lib.hid (HM3.out.addP ho1 hg1 hl1); obtain ⟨hF2, m0, m1, m2, m3, m4, m5⟩ := H1.out.1.cell; have m5a := m5 2; have m5b := m5 3; have hs2 : w5.heap.size ≤ wA.heap.size := hg1.size; have HVF2 : Hid ((wA.setCell ⟨F, 2, none⟩ (.slice A1 (ps.length + pl.length) c1)).ownsRow w4.heap.size 3 1 vg fl.length (fl.map (Value.int .i64))) := own_kept2 HVF.out (fun g e => H1.out.2.2.1 g (HSEP.out g e).1 (HSEP.out g e).2.1 (HSEP.out g e).2.2); clear ho1 hg1 hl1 m5)
                    | (at_builtin; refine wpList_append_src _ rfl _ _ 28 rfl V.heap.size 3 k0 (.int .i64 0) 1 8 Tryd.underlying28 ki kz0 kz1 kz2 rfl (by decide) fv fs.length _ rfl H1.out.2.1.2.2.2.1 vg _ fl.length _ rfl HVF2.out (ints_one _) (by unfold maxLen; omega) (by omega) (by simp; omega) ?_; intro v3 wB ho3 hg3 hl3; obtain ⟨A3, c3, rfl⟩ := own_form ho3; have hs4 : wA.heap.size ≤ wB.heap.size := (by have := hg3.size; simpa using this); have H3 := Lib.hid (H1.out.2.1.addZ ho3 hg3 hl3); obtain ⟨hF4, r0, r1, r2, r3, r4, r5⟩ := H3.out.1.cell; have r5b := r5 3; have r5c := r5 4; clear ho3 hg3 hl3 r5))
                  go_roundw
                  case rel => exact HR.out _ _ true _ (by simp) (H3.out.2.1.setO true)
                  case measure => simp [intOf]; omega
                · have hqi : (q : Int) = (m : Int) - 1 := by omega
                  go_wp2_with (first
                    | (at_builtin; refine wpList_append_src _ rfl _ _ 43 rfl V.heap.size 69 i0 (.agg #[.int .i64 0, .int .i64 0]) 2 16 Tryd.underlying43 hi hz0 hz1 hz2 rfl (by decide) pv ps.length _ rfl HM3.out.2.2.1 vq _ pl.length _ rfl HVP.out (placeVs_one _) (by unfold maxLen; omega) (by omega) hBw ?_; intro v1 wA ho1 hg1 hl1; obtain ⟨A1, c1, rfl⟩ := own_form ho1; have H1 := Lib.hid (HM3.out.addP ho1 hg1 hl1); obtain ⟨hF2, m0, m1, m2, m3, m4, m5⟩ := H1.out.1.cell; have m5a := m5 2; have m5b := m5 3; have hs2 : w5.heap.size ≤ wA.heap.size := hg1.size; have HVF2 : Hid ((wA.setCell ⟨F, 2, none⟩ (.slice A1 (ps.length + pl.length) c1)).ownsRow w4.heap.size 3 1 vg fl.length (fl.map (Value.int .i64))) := own_kept2 HVF.out (fun g e => H1.out.2.2.1 g (HSEP.out g e).1 (HSEP.out g e).2.1 (HSEP.out g e).2.2); clear ho1 hg1 hl1 m5)
                    | (at_builtin; refine wpList_append_src _ rfl _ _ 28 rfl V.heap.size 3 k0 (.int .i64 0) 1 8 Tryd.underlying28 ki kz0 kz1 kz2 rfl (by decide) fv fs.length _ rfl H1.out.2.1.2.2.2.1 vg _ fl.length _ rfl HVF2.out (ints_one _) (by unfold maxLen; omega) (by omega) (by simp; omega) ?_; intro v3 wB ho3 hg3 hl3; obtain ⟨A3, c3, rfl⟩ := own_form ho3; have hs4 : wA.heap.size ≤ wB.heap.size := (by have := hg3.size; simpa using this); have H3 := Lib.hid (H1.out.2.1.addZ ho3 hg3 hl3); obtain ⟨hF4, r0, r1, r2, r3, r4, r5⟩ := H3.out.1.cell; have r5b := r5 3; have r5c := r5 4; clear ho3 hg3 hl3 r5))
                  go_roundw
                  case rel => exact HR.out _ _ true _ (by simp [hqq]) (H3.out.2.1.setO true)
                  case measure => simp [intOf]; omega
                · have hqi : ¬ (q : Int) = (m : Int) - 1 := by omega
                  go_wp2_with (first
                    | (at_builtin; refine wpList_append_src _ rfl _ _ 43 rfl V.heap.size 69 i0 (.agg #[.int .i64 0, .int .i64 0]) 2 16 Tryd.underlying43 hi hz0 hz1 hz2 rfl (by decide) pv ps.length _ rfl HM3.out.2.2.1 vq _ pl.length _ rfl HVP.out (placeVs_one _) (by unfold maxLen; omega) (by omega) hBw ?_; intro v1 wA ho1 hg1 hl1; obtain ⟨A1, c1, rfl⟩ := own_form ho1; have H1 := Lib.hid (HM3.out.addP ho1 hg1 hl1); obtain ⟨hF2, m0, m1, m2, m3, m4, m5⟩ := H1.out.1.cell; have m5a := m5 2; have m5b := m5 3; have hs2 : w5.heap.size ≤ wA.heap.size := hg1.size; have HVF2 : Hid ((wA.setCell ⟨F, 2, none⟩ (.slice A1 (ps.length + pl.length) c1)).ownsRow w4.heap.size 3 1 vg fl.length (fl.map (Value.int .i64))) := own_kept2 HVF.out (fun g e => H1.out.2.2.1 g (HSEP.out g e).1 (HSEP.out g e).2.1 (HSEP.out g e).2.2); clear ho1 hg1 hl1 m5)
                    | (at_builtin; refine wpList_append_src _ rfl _ _ 28 rfl V.heap.size 3 k0 (.int .i64 0) 1 8 Tryd.underlying28 ki kz0 kz1 kz2 rfl (by decide) fv fs.length _ rfl H1.out.2.1.2.2.2.1 vg _ fl.length _ rfl HVF2.out (ints_one _) (by unfold maxLen; omega) (by omega) (by simp; omega) ?_; intro v3 wB ho3 hg3 hl3; obtain ⟨A3, c3, rfl⟩ := own_form ho3; have hs4 : wA.heap.size ≤ wB.heap.size := (by have := hg3.size; simpa using this); have H3 := Lib.hid (H1.out.2.1.addZ ho3 hg3 hl3); obtain ⟨hF4, r0, r1, r2, r3, r4, r5⟩ := H3.out.1.cell; have r5b := r5 3; have r5c := r5 4; clear ho3 hg3 hl3 r5))
                  go_roundw
                  case rel =>
                    refine HR.out _ _ _ _ ?_ (H3.out.2.1.setO _)
                    simp [hqi, hqq]
                  case measure => simp [intOf]; omega
          · obtain rfl : k = lw := by omega
            have e1 : wk.take k = wk := List.take_of_length_le (by rw [HLW.out]; exact Nat.le_refl _)
            obtain ⟨M, hM⟩ : ∃ M, D.rface f wk = M := ⟨_, rfl⟩
            have hMa : M.above = (!nb) := by rw [← hM]; exact HNB.out
            have hMo : M.outer = o := by rw [HO.out, e1, ← hM]; rfl
            have hm2 := HM1.out
            rw [e1, show (wk.flatMap D.rda).map Int.ofNat = M.darts from by rw [← hM]; rfl, show wk.flatMap (D.rpl f) = M.places from by rw [← hM]; rfl, show wk.flatMap (D.rfz f) = M.fingers from by rw [← hM]; rfl] at hm2
            rw [← hMa] at n0
            rw [← hMo] at n4
            rw [hM] at HTK
            obtain ⟨A1, c1, hq1⟩ := own_form hm2.2.1
            obtain ⟨A2, c2, hq2⟩ := own_form hm2.2.2.1
            obtain ⟨A3, c3, hq3⟩ := own_form hm2.2.2.2.1
            subst hq1
            subst hq2
            subst hq3
            have HQ := Lib.hid (And.intro hm2.2.1 (And.intro hm2.2.2.1 hm2.2.2.2.1))
            have HAV : Hid (∀ W1, Below wr.heap.size wr W1 → W1.ownsRow w2.heap.size 45 5 (.slice Aj j cj) j ((((D.faces f).take j).zip ts).flatMap fun p => faceVs p.1 p.2)) := by
              intro W1 hW1
              have h1 := ownsRow_below (ownsRow_below HFF.out HBV.out) hW1
              rw [HTL.out] at h1
              exact h1
            have HPUSH : Hid (∀ ob v5 w5, (wr.alloc ob).grownBy w5 (Value.ownBlock (.slice Aj j cj)) → w5.ownsRow w2.heap.size 45 5 v5 (j + 1) (((((D.faces f).take j).zip ts).flatMap fun p => faceVs p.1 p.2) ++ [.bool M.above, .slice A1 M.darts.length c1, .slice A2 M.places.length c2, .slice A3 M.fingers.length c3, .bool M.outer]) →
                RfOut D f w2 N v5 (.int .i64 ((j : Int) + 1)) w5) := by
              intro ob v5 w5 h1 h2
              have h3 := faces_push HFF.out HFA.out HB.out HBV.out HB.out.size HQ.out.1 HQ.out.2.1 HQ.out.2.2 ob h1 (by rw [HTL.out]; exact h2)
              exact ⟨j + 1, ts ++ [_], by omega, by rw [Int.natCast_add]; rfl, by rw [HTK.out]; exact h3.1, by rw [HTK.out]; exact h3.2.1, h3.2.2⟩
            obtain ⟨d1, hd1⟩ : ∃ y, M.darts.length = y := ⟨_, rfl⟩
            obtain ⟨d2, hd2⟩ : ∃ y, M.places.length = y := ⟨_, rfl⟩
            obtain ⟨d3, hd3⟩ : ∃ y, M.fingers.length = y := ⟨_, rfl⟩
            rw [hd1, hd2, hd3] at HPUSH
            rw [hd1] at n1
            rw [hd2] at n2
            rw [hd3] at n3
            obtain ⟨i0, hi, hz0, hz1, hz2⟩ := info_parts infoFace
            have hVr : w2.heap.size ≤ wr.heap.size := by omega
            clear hM hm2 hMa hMo hd1 hd2 hd3 e1 n5 HQ
            go_wp2_with (first
              | (at_builtin; refine wpList_append_own_at _ rfl _ _ 37 rfl w2.heap.size 45 i0 (.agg #[.bool false, .slice none 0 0, .slice none 0 0, .slice none 0 0, .bool false]) 5 88 Tryd.underlying37 hi hz0 hz1 hz2 rfl (by decide) (.slice Aj j cj) j _ rfl (HAV.out _ ((Below.refl _ _).alloc (Nat.le_refl _) _)) ⟨wr.heap.size, 0, none⟩ 1 1 [.bool M.above, .slice A1 d1 c1, .slice A2 d2 c2, .slice A3 d3 c3, .bool M.outer] rfl rfl (cells_new _ _ _) (by intro u hu; simp only [List.mem_cons, List.not_mem_nil, or_false] at hu; rcases hu with rfl | rfl | rfl | rfl | rfl <;> rfl) (by unfold maxLen; omega) (by omega) (by simp; omega) ?_; intro v5 w5 hown5 hgr5 hnil5 hloc5; have H5 := Lib.hid (HPUSH.out _ _ _ hgr5 hown5); clear hown5 hgr5 hnil5 hloc5))
            go_roundw
            case rel => exact H5.out
            case measure => simp [intOf]; omega
    · obtain rfl : j = N := by omega
      have hfe : (D.faces f).take j = D.faces f := List.take_of_length_le (by rw [HNL.out]; exact Nat.le_refl _)
      obtain ⟨G, rfl⟩ : ∃ G, Aj = some ⟨G, 0, none⟩ := by
        rcases HFF.out.2 with ⟨hv, h0⟩ | ⟨g, cap, cur, hv, _⟩
        · rw [HTL.out] at h0
          omega
        · injection hv with e1
          exact ⟨g, e1⟩
      have h1 := HFF.out
      have h2 := HFA.out
      rw [hfe] at h1 h2
      have HEND : Hid (FsF wr G (D.faces f)) := FsF.of (c := cj) (by rw [HNL.out]; exact h1) h2
      clear h1 h2 hfe
      go_wp2_with fail
      go_ret
      exact ⟨G, cj, rfl, HEND.out, HB2.out.trans (HB.out.mono HB2.out.size)⟩

end Go.Proofs.YtbbpockkafbfmaaDoor
