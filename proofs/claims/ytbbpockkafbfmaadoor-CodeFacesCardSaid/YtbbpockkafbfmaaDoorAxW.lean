/-
  The walk of the reference's Axis; its Check answers as the program's.
-/
import Derived.Test.YtbbpockkafbfmaaDoorRefW
import Derived.Test.YtbbpockkafbfmaaDoorAxM
import Derived.Test.YtbbpockkafbfmaaDoorEach
import Derived.Deep.RegionHeld3
import Derived.Deep.RegionLaw
import Derived.Laws.AppendOwnNone
namespace Go.Proofs.YtbbpockkafbfmaaDoor
open Go.RowKit

theorem nat_ints (l : List Nat) : (l.map Int.ofNat).map (Value.int .i64) = l.map intV := by
  rw [List.map_map]; rfl
theorem OwnV.slN {w : World} {B n c : Nat} {A : Option Addr} {l : List Nat} (h : OwnV w B 3 (.slice A n c) (l.map intV)) (hn : l.length = n) : SL w A n (l.map Int.ofNat) := by
  refine SL.of_own (base := B) (e := 3) (c := c) ?_
  unfold OwnV at h
  rw [List.length_map, hn] at h
  rw [nat_ints]
  exact h
theorem sl_oneN (w : World) (T : TypeId) (j : Nat) : SL (w.alloc (.cells #[.int .i64 (j : Int)] T)) (some ⟨w.heap.size, 0, none⟩) 1 ([j].map Int.ofNat) := by
  have h := heap_alloc_new w (.cells #[.int .i64 (j : Int)] T)
  refine ⟨rfl, fun _ => ⟨w.heap.size, 0, rfl, by simp, fun k hk => ?_⟩⟩
  obtain rfl : k = 0 := by omega
  exact Lib.cell_of_heap h 0
theorem SL.offN {w : World} {b m : Nat} {xs : List Nat} (h : SL w (some ⟨b, 0, none⟩) m (xs.map Int.ofNat)) {k : Nat} (hk : k ≤ m) : SL w (some ⟨b, k, none⟩) (m - k) ((xs.drop k).map Int.ofNat) := by
  have hl : xs.length = m := by simpa using h.1
  refine ⟨by rw [List.length_map, List.length_drop, hl], fun hn => ?_⟩
  obtain ⟨b', off', hA, hb, hcell⟩ := h.2 (by omega)
  injection hA with hA
  injection hA with e1 e2
  subst e1; subst e2
  refine ⟨b, k, rfl, hb, fun q hq => ?_⟩
  have := hcell (k + q) (by omega)
  rw [Nat.zero_add] at this
  rw [List.map_drop, List.getElem?_drop]
  exact this

set_option maxRecDepth 100000 in
/-- An append of integers inside a region whose order is drawn. -/
theorem step_append_intsV {w : World} {ops : Array Oper} {o : Oper} {a : Act} {K : Act → World → Prop} {Q : Exit → Act → World → Prop} {E : Prop} (hgd : o.guard = none) (s x : Operand)
    (ho : o.op = .call { callee := .builtin .append, args := #[s, x], argTypes := #[28, 28] })
    (B : Nat) (v : Value) (xs : List Nat) (hs : a.eval s = v) (hown : OwnV w B 3 v (xs.map intV))
    (ad : Addr) (m c : Nat) (ys : List Nat) (hx : a.eval x = .slice (some ad) m c) (hy : SL w (some ad) m (ys.map Int.ofNat))
    (hbig : xs.length + m ≤ 1000000) (hbase : B ≤ w.heap.size)
    (h : ∀ v' w', OwnV w' B 3 v' ((xs ++ ys).map intV) → w.grownBy w' v.ownBlock → K (a.put o.dst v') w') :
    if Region.wanted o (yielded ops a.tmps) = true then Oper.wp Tryd.prog o a w K Q else E := by
  have hw : Region.wanted o (yielded ops a.tmps) = true := by simp [Region.wanted, hgd]
  rw [if_pos hw]
  obtain ⟨i0, hi, hz0, hz1, hz2⟩ := info_parts infoInt'
  have hm : ys.length = m := by simpa using hy.1
  refine wp_append_own w s x 28 ho B 3 i0 (.int .i64 0) 1 8 Tryd.underlying28 hi hz0 hz1 hz2 rfl (by decide) v (xs.map intV).length (xs.map intV) hs hown ad m c (ys.map intV) hx (by simp [hm]) ?_ ?_ (by unfold maxLen; rw [List.length_map]; omega) (by rw [List.length_map]; omega) hbase ?_
  · intro j u hj
    rw [List.getElem?_map] at hj
    have hjl : j < ys.length := by
      rcases Nat.lt_or_ge j ys.length with q | q
      · exact q
      · rw [List.getElem?_eq_none q] at hj; cases hj
    obtain ⟨b, off, y, hA, _, hyj, hc⟩ := hy.at_ (k := j) (by omega)
    obtain rfl : ad = ⟨b, off, none⟩ := by injection hA
    rw [List.getElem?_map] at hyj
    rw [List.getElem?_eq_getElem hjl] at hj hyj
    injection hj with hj
    injection hyj with hyj
    rw [Go.WideShapes.add_plain, hc, ← hj, ← hyj]
    rfl
  · intro u hu
    obtain ⟨y, _, rfl⟩ := List.mem_map.1 hu
    rfl
  · intro v' w' h1 h2 _
    refine h v' w' ?_ h2
    unfold OwnV
    have e : ((xs ++ ys).map intV).length = (xs.map intV).length + m := by simp [hm]
    rw [e, List.map_append]
    exact h1
set_option maxRecDepth 100000 in
/-- .. of nothing. -/
theorem step_append_noneV {w : World} {ops : Array Oper} {o : Oper} {a : Act} {K : Act → World → Prop} {Q : Exit → Act → World → Prop} {E : Prop} (hgd : o.guard = none) (s x : Operand)
    (ho : o.op = .call { callee := .builtin .append, args := #[s, x], argTypes := #[28, 28] })
    (B : Nat) (v : Value) (xs : List Nat) (hs : a.eval s = v) (hown : OwnV w B 3 v (xs.map intV)) (hx : a.eval x = .slice none 0 0)
    (h : K (a.put o.dst v) w) : if Region.wanted o (yielded ops a.tmps) = true then Oper.wp Tryd.prog o a w K Q else E := by
  have hw : Region.wanted o (yielded ops a.tmps) = true := by simp [Region.wanted, hgd]
  rw [if_pos hw]
  obtain ⟨i0, hi, hz0, hz1, hz2⟩ := info_parts infoInt'
  have hrun := run_append_owned_none (P := Tryd.prog) (w := w) B 28 o.type 3 i0 1 Tryd.underlying28 hi v (xs.map intV).length (xs.map intV) hown
  unfold Oper.wp
  simp [execOp, ho, resolve, invoke, builtin, hs, hx, hrun, Result.andThen]
  exact h

theorem before_at {sp : List Nat} {s : Nat} : ∀ {l : List Nat} {k e : Nat}, k ≤ before sp s l → l[k]? = some e → (sp.getD e 0 < s ↔ k < before sp s l)
  | [], k, e, _, h => by cases h
  | x :: r, k, e, hk, h => by
    rw [before] at hk ⊢
    cases k with
    | zero =>
      injection h with h
      subst h
      by_cases q : sp.getD x 0 < s
      · rw [if_pos q]; exact ⟨fun _ => by omega, fun _ => q⟩
      · rw [if_neg q]; exact ⟨fun c => absurd c q, fun c => by omega⟩
    | succ k =>
      by_cases q : sp.getD x 0 < s
      · rw [if_pos q] at hk ⊢
        have := before_at (sp := sp) (s := s) (l := r) (k := k) (e := e) (by omega) h
        rw [this]; omega
      · rw [if_neg q] at hk; omega

def AxRel (D : DM) (w : World) (ov iv : Value) (wr : World) : Prop :=
  ∃ j : Nat, j ≤ D.n ∧ iv = .int .i64 (j : Int) ∧ OwnV wr w.heap.size 3 ov ((axM D.ls D.sp j).map intV) ∧ Below w.heap.size w wr
def AxIn (bf : Nat) (w wr : World) (kv : Value) (V : World) : Prop :=
  ∃ k : Nat, k ≤ bf ∧ kv = .int .i64 (k : Int) ∧ Below w.heap.size w V ∧ Below wr.heap.size wr V
/-- What the comparison of two passes reads. -/
def AxS (P : Nat) (vL : Value) (g k b off e j : Nat) (a l : Lt) (V w' : World) : Prop :=
  w'.cell? ⟨P, 1, none⟩ = some vL ∧ w'.cell? ⟨g, k, none⟩ = some (.int .i64 (e : Int)) ∧ w'.cell? ⟨b, off + e * 6, none⟩ = some (.int .i64 a.kind) ∧ w'.cell? ⟨b, off + e * 6 + 1, none⟩ = some (.int .i64 a.gate) ∧ w'.cell? ⟨b, off + e * 6 + 2, none⟩ = some (.int .i64 a.rank) ∧ w'.cell? ⟨b, off + e * 6 + 3, none⟩ = some (.int .i64 a.id) ∧ w'.cell? ⟨b, off + e * 6 + 4, none⟩ = some (.int .i64 a.sign) ∧ w'.cell? ⟨b, off + e * 6 + 5, none⟩ = some (.bool a.over) ∧ w'.cell? ⟨b, off + j * 6, none⟩ = some (.int .i64 l.kind) ∧ w'.cell? ⟨b, off + j * 6 + 1, none⟩ = some (.int .i64 l.gate) ∧ w'.cell? ⟨b, off + j * 6 + 2, none⟩ = some (.int .i64 l.rank) ∧ w'.cell? ⟨b, off + j * 6 + 3, none⟩ = some (.int .i64 l.id) ∧ w'.cell? ⟨b, off + j * 6 + 4, none⟩ = some (.int .i64 l.sign) ∧ w'.cell? ⟨b, off + j * 6 + 5, none⟩ = some (.bool l.over) ∧ Below V.heap.size V w'
theorem AxS.last {P : Nat} {vL : Value} {g k b off e j : Nat} {a l : Lt} {V w' : World} (h : AxS P vL g k b off e j a l V w') : Below V.heap.size V w' := h.2.2.2.2.2.2.2.2.2.2.2.2.2.2
theorem AxS.of {P : Nat} {vL : Value} {g k b off e j : Nat} {a l : Lt} {V w' : World} (hP : P < V.heap.size) (hg : g < V.heap.size) (hb : b < V.heap.size) (h : AxS P vL g k b off e j a l V V) (hw : Below V.heap.size V w') : AxS P vL g k b off e j a l V w' := by
  obtain ⟨c0, c1, d0, d1, d2, d3, d4, d5, e0, e1, e2, e3, e4, e5, _⟩ := h
  have hc : ∀ q o, q < V.heap.size → w'.cell? ⟨q, o, none⟩ = V.cell? ⟨q, o, none⟩ := fun q o hq => hw.cell (p := ⟨q, o, none⟩) hq
  exact ⟨(hc _ _ hP).trans c0, (hc _ _ hg).trans c1, (hc _ _ hb).trans d0, (hc _ _ hb).trans d1, (hc _ _ hb).trans d2, (hc _ _ hb).trans d3, (hc _ _ hb).trans d4, (hc _ _ hb).trans d5, (hc _ _ hb).trans e0, (hc _ _ hb).trans e1, (hc _ _ hb).trans e2, (hc _ _ hb).trans e3, (hc _ _ hb).trans e4, (hc _ _ hb).trans e5, hw⟩

set_option maxHeartbeats 16000000 in
set_option maxRecDepth 100000 in
theorem refAxis_calls {D : DM} (g : D.good) (f : Int) (A : Option Addr) (c : Nat) (w : World) (hL : LS w A D.n D.ls) :
    Calls Tryd.prog 46 #[.agg #[.int .i64 f, .slice A D.n c]] w fun e w' => ∃ Ax cx, e = .returned (.slice Ax D.m cx) ∧ SL w' Ax D.m (D.ax.map Int.ofNat) ∧ Below w.heap.size w w' := by
  have HG := Lib.hid g
  have hn := g.ok.n1
  have hlen := g.ok.ls
  have hXL : Hid (LS (w.alloc (.cells #[.int .i64 f, .slice A D.n c] 33)) A D.n D.ls) := hL.below ((Below.refl _ _).alloc (Nat.le_refl _) _)
  have HEND : Hid (∀ W B v, OwnV W B 3 v ((axM D.ls D.sp D.n).map intV) → ∃ Ax cx, v = .slice Ax D.m cx ∧ SL W Ax D.m (D.ax.map Int.ofNat)) := by
    intro W B v h
    rw [axM_eq HG.out] at h
    obtain ⟨Ax, cx, rfl⟩ := own_form h
    refine ⟨Ax, cx, by rw [List.length_map, HG.out.ok.ax], ?_⟩
    rw [List.length_map, HG.out.ok.ax] at h
    exact h.slN HG.out.ok.ax
  have HBFL : Hid (∀ j, j ≤ D.n → (axM D.ls D.sp j).length ≤ j) := by
    intro j hj
    have h1 := (axM_inv HG.out j hj).2.2
    have h2 := cntB_take_le isPass D.ls j
    omega
  have HX := Lib.hid (Box.made w f A D.n c 33)
  have HB0 : Hid (Below w.heap.size w (w.alloc (.cells #[.int .i64 f, .slice A D.n c] 33))) := (Below.refl _ _).alloc (Nat.le_refl _) _
  clear g hL
  obtain ⟨n, hnn⟩ : ∃ n, D.n = n := ⟨_, rfl⟩
  rw [hnn] at hn hlen hXL HX HB0 HBFL HEND ⊢
  go_enter Tryd.func46, Tryd.ntmps46
  go_wp2_with fail
  obtain ⟨W0, hW0⟩ : ∃ W0, W0 = w.alloc (.cells #[.int .i64 f, .slice A n c] 33) := ⟨_, rfl⟩
  obtain ⟨P, hP⟩ : ∃ P, P = w.heap.size := ⟨_, rfl⟩
  rw [← hW0] at hXL HX HB0 ⊢
  rw [← hP] at HX ⊢
  clear hW0 hP
  have HST : Hid (AxRel D W0 (.slice none 0 0) (.int .i64 0) W0) := ⟨0, Nat.zero_le _, rfl, World.ownsRow_nil _ _ _ _, Below.refl _ _⟩
  go_loopw [3, 4] (fun ov iv wr => AxRel D W0 ov iv wr) (fun _ iv _ => n - (intOf iv).toNat)
  case atStart => exact HST.out
  case round =>
    obtain ⟨j, hj, rfl, hown, hb⟩ := hrel
    have HOWN := Lib.hid hown
    have HB := Lib.hid hb
    obtain ⟨hP, _, x1⟩ := HX.out.below hb
    rw [hnn] at hj
    by_cases hlt : j < n
    · obtain ⟨b, off, l, rfl, hbl, hl, c0, c1, c2, c3, c4, c5⟩ := (hXL.out.below hb).at_ hlt
      have hj1 : (j : Int) < n := by omega
      have HLJ := Lib.hid hl
      clear hl hb hown
      by_cases hk : l.kind = 1
      · have hke : (l.kind != 1) = false := by rw [bne_eq_false_iff_eq]; exact hk
        have HK := Lib.hid hk
        have HSTEP0 : Hid (axM D.ls D.sp (j + 1) = (axM D.ls D.sp j).take (before D.sp (D.sp.getD j 0) (axM D.ls D.sp j)) ++ [j] ++ (axM D.ls D.sp j).drop (before D.sp (D.sp.getD j 0) (axM D.ls D.sp j))) := by
          unfold Hid
          rw [axM, HLJ.out]
          dsimp only
          rw [if_pos HK.out]
        have HLL := Lib.hid (HBFL.out j hj)
        have HMEM : Hid (∀ (q e : Nat), (axM D.ls D.sp j)[q]? = some e → e < n ∧ ∃ a, D.ls[e]? = some a ∧ a.kind = 1) := by
          intro q e he
          obtain ⟨h1, h2⟩ := ((axM_inv HG.out j (by omega)).2.1 e).1 (List.mem_of_getElem? he)
          exact ⟨by omega, h2⟩
        have HBA : Hid (∀ (k e : Nat), k ≤ before D.sp (D.sp.getD j 0) (axM D.ls D.sp j) → (axM D.ls D.sp j)[k]? = some e → (D.sp.getD e 0 < D.sp.getD j 0 ↔ k < before D.sp (D.sp.getD j 0) (axM D.ls D.sp j))) := fun k e h1 h2 => before_at h1 h2
        have HBL := Lib.hid (before_le D.sp (D.sp.getD j 0) (axM D.ls D.sp j))
        obtain ⟨L, hLL⟩ : ∃ L, axM D.ls D.sp j = L := ⟨_, rfl⟩
        rw [hLL] at HOWN HSTEP0 HLL HMEM HBA HBL
        obtain ⟨bf, hbf⟩ : ∃ bf, before D.sp (D.sp.getD j 0) L = bf := ⟨_, rfl⟩
        rw [hbf] at HSTEP0 HBA HBL
        obtain ⟨L2, hL2⟩ : ∃ L2, L.take bf ++ [j] ++ L.drop bf = L2 := ⟨_, rfl⟩
        rw [hL2] at HSTEP0
        have HSTEP := HSTEP0
        obtain ⟨ln, hln⟩ : ∃ ln, L.length = ln := ⟨_, rfl⟩
        have HLN := Lib.hid hln
        rw [hln] at HLL HBL
        have hll := HLL.out
        have hbl2 := HBL.out
        have hf := own_form HOWN.out
        rw [List.length_map, hln] at hf
        have hf2 : ∃ Av cp, u3 = .slice Av ln cp ∧ ((Av = none ∧ ln = 0 ∧ cp = 0) ∨ ∃ g, Av = some ⟨g, 0, none⟩ ∧ ln ≤ cp ∧ W0.heap.size ≤ g ∧ g < wr.heap.size) := by
          rcases HOWN.out.2 with ⟨hv, h0⟩ | ⟨g, cap, cur, hv, hg, hh, hc, _⟩
          · rw [List.length_map, hln] at h0
            exact ⟨none, 0, by rw [hv, h0], .inl ⟨rfl, h0, rfl⟩⟩
          · rw [List.length_map, hln] at hv
            obtain ⟨Aq, cq, hvq⟩ := hf
            have hlt : g < wr.heap.size := by
              rcases Nat.lt_or_ge g wr.heap.size with q | q
              · exact q
              · rw [Array.getElem?_eq_none q] at hh; cases hh
            exact ⟨some ⟨g, 0, none⟩, cap, hv, .inr ⟨g, rfl, by rw [List.length_map, hln, Nat.mul_one] at *; omega, hg, hlt⟩⟩
        obtain ⟨Av, cp, rfl, hcase⟩ := hf2
        have HSL : Hid (SL wr Av ln (L.map Int.ofNat)) := HOWN.out.slN hln
        have HCASE := Lib.hid hcase
        have HBW := Lib.hid (Below.refl wr.heap.size wr)
        have hP0 := hP
        clear hk hLL hbf hln hf hcase HSTEP0 HBFL HST
        go_wp2_with fail
        go_loopw [5] (fun kv V => AxIn bf W0 wr kv V) (fun kv _ => ln - (intOf kv).toNat)
        case atStart => exact ⟨0, Nat.zero_le _, rfl, HB.out, HBW.out⟩
        case round =>
          obtain ⟨k, hkb, rfl, hbV0, hbV⟩ := hrel
          obtain ⟨V, rfl⟩ : ∃ V, V = wr := ⟨_, rfl⟩
          obtain ⟨hPV, _, x1V⟩ := HX.out.below hbV0
          have HBV := Lib.hid hbV0
          have HBVR := Lib.hid hbV
          obtain ⟨_, _, l1, hA0, hbV2, hl1, e0, e1, e2, e3, e4, e5⟩ := (hXL.out.below hbV0).at_ (k := j) hlt
          injection hA0 with hA0
          injection hA0 with q1 q2
          subst q1
          subst q2
          rw [HLJ.out] at hl1
          injection hl1 with hl1
          subst hl1
          have HSLV := Lib.hid (HSL.out.below hbV)
          by_cases hkl : k < ln
          · rcases HCASE.out with ⟨_, h0, _⟩ | ⟨g, rfl, hlc, hgB, hgw⟩
            · omega
            · obtain ⟨_, _, xe, hA', hgV, hxe, hce⟩ := HSLV.out.at_ hkl
              injection hA' with hA'
              injection hA' with q1 q2
              subst q1
              subst q2
              rw [Nat.zero_add] at hce
              obtain ⟨e, he, rfl⟩ : ∃ e : Nat, L[k]? = some e ∧ xe = (e : Int) := by
                rw [List.getElem?_map] at hxe
                cases hh : L[k]? with
                | none => rw [hh] at hxe; cases hxe
                | some y => rw [hh] at hxe; injection hxe with hxe; exact ⟨y, rfl, hxe.symm⟩
              obtain ⟨hen, a, ha, hka⟩ := HMEM.out k e he
              obtain ⟨_, _, a1, hA1, _, ha1, d0, d1, d2, d3, d4, d5⟩ := (hXL.out.below hbV0).at_ (k := e) hen
              injection hA1 with hA1
              injection hA1 with q1 q2
              subst q1
              subst q2
              rw [ha] at ha1
              injection ha1 with ha1
              subst ha1
              have hlf := HG.out.lft e j a l ha HLJ.out hka HK.out
              have hbe := HBA.out k e hkb he
              have hki : (k : Int) < (ln : Int) := by omega
              have hei : (e : Int) < (n : Int) := by omega
              have hbV' : b < V.heap.size := hbV2
              have HS1 : Hid (AxS P (.slice (some ⟨b, off, none⟩) n c) g k b off e j a l V V) := ⟨x1V, hce, d0, d1, d2, d3, d4, d5, e0, e1, e2, e3, e4, e5, Below.refl _ _⟩
              clear x1V hce d0 d1 d2 d3 d4 d5 e0 e1 e2 e3 e4 e5 hbV0 hbV hxe he ha hka c0 c1 c2 c3 c4 c5 x1
              by_cases hkf : k < bf
              · have hd : decide (a.gate < l.gate ∨ a.gate = l.gate ∧ a.rank < l.rank) = true := by rw [decide_eq_true_iff]; exact hlf.2 (hbe.2 hkf)
                have HLF : Hid (∀ W, Calls Tryd.prog 87 #[.agg #[.int .i64 a.kind, .int .i64 a.gate, .int .i64 a.rank, .int .i64 a.id, .int .i64 a.sign, .bool a.over], .agg #[.int .i64 l.kind, .int .i64 l.gate, .int .i64 l.rank, .int .i64 l.id, .int .i64 l.sign, .bool l.over]] W fun e w' => e = .returned (.bool true) ∧ Below W.heap.size W w') := by
                  intro W
                  have := left_calls_ref a l W
                  rw [hd] at this
                  exact this
                clear hd hlf hbe
                go_wp2_with fail
                go_region_held3 (fun w' => w'.cell? ⟨P, 1, none⟩ = some (.slice (some ⟨b, off, none⟩) n c) ∧ w'.cell? ⟨g, k, none⟩ = some (.int .i64 (e : Int)) ∧ w'.cell? ⟨b, off + e * 6, none⟩ = some (.int .i64 a.kind) ∧ w'.cell? ⟨b, off + e * 6 + 1, none⟩ = some (.int .i64 a.gate) ∧ w'.cell? ⟨b, off + e * 6 + 2, none⟩ = some (.int .i64 a.rank) ∧ w'.cell? ⟨b, off + e * 6 + 3, none⟩ = some (.int .i64 a.id) ∧ w'.cell? ⟨b, off + e * 6 + 4, none⟩ = some (.int .i64 a.sign) ∧ w'.cell? ⟨b, off + e * 6 + 5, none⟩ = some (.bool a.over) ∧ w'.cell? ⟨b, off + j * 6, none⟩ = some (.int .i64 l.kind) ∧ w'.cell? ⟨b, off + j * 6 + 1, none⟩ = some (.int .i64 l.gate) ∧ w'.cell? ⟨b, off + j * 6 + 2, none⟩ = some (.int .i64 l.rank) ∧ w'.cell? ⟨b, off + j * 6 + 3, none⟩ = some (.int .i64 l.id) ∧ w'.cell? ⟨b, off + j * 6 + 4, none⟩ = some (.int .i64 l.sign) ∧ w'.cell? ⟨b, off + j * 6 + 5, none⟩ = some (.bool l.over) ∧ Below V.heap.size V w')
                  (first
                    | exact AxS.of (P := P) (vL := .slice (some ⟨b, off, none⟩) n c) (g := g) (k := k) (b := b) (off := off) (e := e) (j := j) (a := a) (l := l) (V := V) hPV hgV hbV' HS1.out (Below.refl _ _).drew
                    | exact AxS.of (P := P) (vL := .slice (some ⟨b, off, none⟩) n c) (g := g) (k := k) (b := b) (off := off) (e := e) (j := j) (a := a) (l := l) (V := V) hPV hgV hbV' HS1.out ((AxS.last (P := P) (vL := .slice (some ⟨b, off, none⟩) n c) (g := g) (k := k) (b := b) (off := off) (e := e) (j := j) (a := a) (l := l) (by assumption)).trans (hbw.mono (AxS.last (P := P) (vL := .slice (some ⟨b, off, none⟩) n c) (g := g) (k := k) (b := b) (off := off) (e := e) (j := j) (a := a) (l := l) (by assumption)).size)))
                  (first
                    | (go_at_call 87; (with_reducible refine (HLF.out _).mono ?_); rintro e w2 ⟨rfl, hbw⟩))
                have hS : AxS P (.slice (some ⟨b, off, none⟩) n c) g k b off e j a l V w2 := by assumption
                have HSS := Lib.hid hS.last
                clear hS
                go_wp2_with fail
                go_roundw
                case rel => exact ⟨k + 1, by omega, by rw [Int.natCast_add]; rfl, HBV.out.trans (HSS.out.mono HBV.out.size), HBVR.out.trans (HSS.out.mono HBVR.out.size)⟩
                case measure => simp [intOf]; omega
              · have hd : decide (a.gate < l.gate ∨ a.gate = l.gate ∧ a.rank < l.rank) = false := by rw [decide_eq_false_iff_not]; exact fun q => hkf (hbe.1 (hlf.1 q))
                have HLF : Hid (∀ W, Calls Tryd.prog 87 #[.agg #[.int .i64 a.kind, .int .i64 a.gate, .int .i64 a.rank, .int .i64 a.id, .int .i64 a.sign, .bool a.over], .agg #[.int .i64 l.kind, .int .i64 l.gate, .int .i64 l.rank, .int .i64 l.id, .int .i64 l.sign, .bool l.over]] W fun e w' => e = .returned (.bool false) ∧ Below W.heap.size W w') := by
                  intro W
                  have := left_calls_ref a l W
                  rw [hd] at this
                  exact this
                obtain rfl : k = bf := by omega
                clear hd hlf hbe
                go_wp2_with fail
                go_region_held3 (fun w' => w'.cell? ⟨P, 1, none⟩ = some (.slice (some ⟨b, off, none⟩) n c) ∧ w'.cell? ⟨g, k, none⟩ = some (.int .i64 (e : Int)) ∧ w'.cell? ⟨b, off + e * 6, none⟩ = some (.int .i64 a.kind) ∧ w'.cell? ⟨b, off + e * 6 + 1, none⟩ = some (.int .i64 a.gate) ∧ w'.cell? ⟨b, off + e * 6 + 2, none⟩ = some (.int .i64 a.rank) ∧ w'.cell? ⟨b, off + e * 6 + 3, none⟩ = some (.int .i64 a.id) ∧ w'.cell? ⟨b, off + e * 6 + 4, none⟩ = some (.int .i64 a.sign) ∧ w'.cell? ⟨b, off + e * 6 + 5, none⟩ = some (.bool a.over) ∧ w'.cell? ⟨b, off + j * 6, none⟩ = some (.int .i64 l.kind) ∧ w'.cell? ⟨b, off + j * 6 + 1, none⟩ = some (.int .i64 l.gate) ∧ w'.cell? ⟨b, off + j * 6 + 2, none⟩ = some (.int .i64 l.rank) ∧ w'.cell? ⟨b, off + j * 6 + 3, none⟩ = some (.int .i64 l.id) ∧ w'.cell? ⟨b, off + j * 6 + 4, none⟩ = some (.int .i64 l.sign) ∧ w'.cell? ⟨b, off + j * 6 + 5, none⟩ = some (.bool l.over) ∧ Below V.heap.size V w')
                  (first
                    | exact AxS.of (P := P) (vL := .slice (some ⟨b, off, none⟩) n c) (g := g) (k := k) (b := b) (off := off) (e := e) (j := j) (a := a) (l := l) (V := V) hPV hgV hbV' HS1.out (Below.refl _ _).drew
                    | exact AxS.of (P := P) (vL := .slice (some ⟨b, off, none⟩) n c) (g := g) (k := k) (b := b) (off := off) (e := e) (j := j) (a := a) (l := l) (V := V) hPV hgV hbV' HS1.out ((AxS.last (P := P) (vL := .slice (some ⟨b, off, none⟩) n c) (g := g) (k := k) (b := b) (off := off) (e := e) (j := j) (a := a) (l := l) (by assumption)).trans (hbw.mono (AxS.last (P := P) (vL := .slice (some ⟨b, off, none⟩) n c) (g := g) (k := k) (b := b) (off := off) (e := e) (j := j) (a := a) (l := l) (by assumption)).size)))
                  (first
                    | (go_at_call 87; (with_reducible refine (HLF.out _).mono ?_); rintro e w2 ⟨rfl, hbw⟩))
                have hS : AxS P (.slice (some ⟨b, off, none⟩) n c) g k b off e j a l V w2 := by assumption
                have HSS := Lib.hid hS.last
                clear hS
                have HBVV0 : Hid (Below W0.heap.size W0 w2) := HBV.out.trans (HSS.out.mono HBV.out.size)
                have HSLV2 := Lib.hid (HSLV.out.below HSS.out)
                obtain ⟨VV, rfl⟩ : ∃ VV, VV = w2 := ⟨_, rfl⟩
                have HBVV := HBVV0
                have H1 : Hid (SL VV.drew (some ⟨g, 0, none⟩) k ((L.take k).map Int.ofNat)) := by unfold Hid; rw [List.map_take]; exact (HSLV2.out.take_ (by omega)).drew
                have H2 : Hid (SL VV (some ⟨g, k, none⟩) (ln - k) ((L.drop k).map Int.ofNat)) := by exact SL.offN HSLV2.out (by omega)
                have HN0 : Hid (OwnV VV.drew VV.heap.size 3 (.slice none 0 0) (([] : List Nat).map intV)) := World.ownsRow_nil _ _ _ _
                have HN1 : Hid (∀ o, OwnV (VV.drew.alloc o) VV.heap.size 3 (.slice none 0 0) (([] : List Nat).map intV)) := fun _ => World.ownsRow_nil _ _ _ _
                have HA0 : Hid (∀ o, Below VV.heap.size VV (VV.drew.alloc o)) := fun o => ((Below.refl VV.heap.size VV).drew).alloc (Nat.le_refl _) o
                have HB1 : Hid (([] : List Nat).length + k ≤ 1000000) := by unfold Hid; simp; omega
                have HB2 : Hid (([] ++ L.take k).length + 1 ≤ 1000000) := by unfold Hid; rw [List.nil_append, List.length_take]; omega
                have HB3 : Hid ((([] ++ L.take k) ++ [j]).length + ((ln - k)) ≤ 1000000) := by unfold Hid; rw [List.nil_append, List.length_append, List.length_take, HLN.out]; simp; omega
                have HL2 : Hid ((([] ++ L.take k) ++ [j]) ++ L.drop k = L2) := by unfold Hid; rw [List.nil_append]; exact hL2
                have hkn : (k : Int) ≤ (ln : Int) := by omega
                have hlci : (ln : Int) ≤ (cp : Int) := by omega
                have hkc2 : (k : Int) ≤ (cp : Int) := by omega
                clear hL2
                have hck : ¬ cp = k := by omega
                go_wp2_with fail
                go_region_law (first
                    | (refine step_append_intsV rfl (.const (.slice none 0 0)) (.tmp 44) rfl VV.heap.size (.slice none 0 0) [] (by kernel_rfl) HN0.out ⟨g, 0, none⟩ k cp (L.take k) (by kernel_rfl) H1.out HB1.out (Nat.le_refl _) ?_; intro v1 w1 hown1 hg1; have hB1 : Below VV.heap.size VV w1 := ((Below.refl VV.heap.size VV).drew).grown hg1 (Nat.le_refl _) (fun q hq => by cases hq); have K1 := Lib.hid (And.intro hown1 hB1); clear hown1 hg1 hB1)
                    | (refine step_append_intsV rfl (.tmp 45) (.tmp 47) rfl VV.heap.size v1 ([] ++ L.take k) (by kernel_rfl) (K1.out.1.below ((Below.refl _ w1).alloc (Nat.le_refl _) _)) ⟨w1.heap.size, 0, none⟩ 1 1 [j] (by kernel_rfl) (sl_oneN w1 3 j) HB2.out (Nat.le_trans K1.out.2.size (by simp)) ?_; intro v2 w2 hown2 hg2; have hB2 : Below VV.heap.size VV w2 := (K1.out.2.alloc K1.out.2.size _).grown hg2 (Nat.le_trans K1.out.2.size (by simp)) (fun q hq => (K1.out.1.lt q hq).1); have K2 := Lib.hid (And.intro hown2 hB2); clear hown2 hg2 hB2)
                    | (refine step_append_intsV rfl (.const (.slice none 0 0)) (.tmp 44) rfl VV.heap.size (.slice none 0 0) [] (by kernel_rfl) (HN1.out _) ⟨g, 0, none⟩ k cp (L.take k) (by kernel_rfl) (H1.out.alloc _) HB1.out (by simp) ?_; intro v1 w1 hown1 hg1; have hGG := (sl_oneN VV.drew 3 j).below ((Below.refl _ _).grown hg1 (Nat.le_refl _) (fun q hq => by cases hq)); have hB1 : Below VV.heap.size VV w1 := (HA0.out _).grown hg1 (by simp) (fun q hq => by cases hq); have J1 := Lib.hid (And.intro hown1 (And.intro hB1 hGG)); clear hown1 hg1 hB1 hGG)
                    | (refine step_append_intsV rfl (.tmp 45) (.tmp 47) rfl VV.heap.size v1 ([] ++ L.take k) (by kernel_rfl) J1.out.1 ⟨VV.heap.size, 0, none⟩ 1 1 [j] (by kernel_rfl) J1.out.2.2 HB2.out J1.out.2.1.size ?_; intro v2 w2 hown2 hg2; have hB2 : Below VV.heap.size VV w2 := J1.out.2.1.grown hg2 J1.out.2.1.size (fun q hq => (J1.out.1.lt q hq).1); have K2 := Lib.hid (And.intro hown2 hB2); clear hown2 hg2 hB2)
                    | (refine step_append_intsV rfl (.tmp 48) (.tmp 51) rfl VV.heap.size v2 (([] ++ L.take k) ++ [j]) (by kernel_rfl) K2.out.1 ⟨g, k, none⟩ (ln - k) (cp - k) (L.drop k) (by kernel_rfl) (H2.out.below K2.out.2) HB3.out K2.out.2.size ?_; intro v3 w3 hown3 hg3; have hB3 : Below VV.heap.size VV w3 := K2.out.2.grown hg3 K2.out.2.size (fun q hq => (K2.out.1.lt q hq).1); have K3 := Lib.hid (And.intro hown3 hB3); clear hown3 hg3 hB3))
                all_goals
                  have HR : Hid (∀ v wx, OwnV wx VV.heap.size 3 v (L2.map intV) → Below VV.heap.size VV wx → AxRel D W0 v (.int .i64 ((j : Int) + 1)) wx) := fun v wx hownc hbc => ⟨j + 1, by omega, by rw [Int.natCast_add]; rfl, by rw [HSTEP.out]; exact own_base' hownc HBVV.out.size, HBVV.out.trans (hbc.mono HBVV.out.size)⟩
                  have HRR := Lib.hid (HR.out _ _ (by rw [← HL2.out]; exact K3.out.1) K3.out.2)
                  clear HR
                  go_wp2_with fail
                  go_roundw
                  case rel => exact HRR.out
                  case measure => simp [intOf]; omega
          · have hkl2 : decide ((k : Int) < (ln : Int)) = false := by rw [decide_eq_false_iff_not]; omega
            clear x1V e0 e1 e2 e3 e4 e5 hbV0 hbV c0 c1 c2 c3 c4 c5 x1
            obtain rfl : k = ln := by omega
            obtain rfl : bf = k := by omega
            rcases HCASE.out with ⟨rfl, h0, hcp⟩ | ⟨g, rfl, hlc, hgB, hgw⟩
            · subst hcp
              subst h0
              obtain rfl : L = [] := List.eq_nil_of_length_eq_zero HLN.out
              go_wp2_with fail
              refine wp_region_held_drew (S := (fun w' => Below V.heap.size V w')) (by kernel_rfl) ?_ (fun hHeld => ?_)
              · exact (Below.refl _ _).drew
              refine wpAnyH_take (i := 0) (oi := { dst := some 20, op := Go.Op.move (Go.Operand.tmp 5), type := 3, pos := "ref.go:123", after := #[], guard := none }) (v := ?_) rfl (by kernel_rfl) (by kernel_rfl) (by kernel_rfl) (fun _ _ _ h => h) (Or.inl ⟨by rfl, ?_⟩) (by assumption) ?_
              rotate_left
              · (intro w hSw; (try dsimp only at hSw); go_simp <;> with_reducible rfl)
              try simp only [Act.put, List.setIfInBounds_toArray, List.set_cons_zero, List.set_cons_succ]
              refine wpAnyH_take (i := 1) (oi := { dst := some 21, op := Go.Op.move (Go.Operand.tmp 3), type := 28, pos := "ref.go:123", after := #[], guard := none }) (v := ?_) rfl (by kernel_rfl) (by kernel_rfl) (by kernel_rfl) (fun _ _ _ h => h) (Or.inl ⟨by rfl, ?_⟩) (by assumption) ?_
              rotate_left
              · (intro w hSw; (try dsimp only at hSw); go_simp <;> with_reducible rfl)
              try simp only [Act.put, List.setIfInBounds_toArray, List.set_cons_zero, List.set_cons_succ]
              refine wpAnyH_take (i := 2) (oi := { dst := some 22, op := Go.Op.call { callee := Go.Callee.builtin Go.Builtin.len, args := #[Go.Operand.tmp 21], argTypes := #[28] }, type := 3, pos := "ref.go:123", after := #[{ on := 1, ground := Go.Ground.data }], guard := none }) (v := ?_) rfl (by kernel_rfl) (by kernel_rfl) (by kernel_rfl) (fun _ _ _ h => h) (Or.inl ⟨by rfl, ?_⟩) (by assumption) ?_
              rotate_left
              · (intro w hSw; (try dsimp only at hSw); go_simp <;> with_reducible rfl)
              try simp only [Act.put, List.setIfInBounds_toArray, List.set_cons_zero, List.set_cons_succ]
              refine wpAnyH_take (i := 3) (oi := { dst := some 23, op := Go.Op.binOp Go.BinOp.lss 3 (Go.Operand.tmp 20) (Go.Operand.tmp 22) 3, type := 4, pos := "ref.go:123", after := #[{ on := 0, ground := Go.Ground.data }, { on := 2, ground := Go.Ground.data }], guard := none }) (v := ?_) rfl (by kernel_rfl) (by kernel_rfl) (by kernel_rfl) (fun _ _ _ h => h) (Or.inl ⟨by rfl, ?_⟩) (by assumption) ?_
              rotate_left
              · (intro w hSw; (try dsimp only at hSw); go_simp <;> with_reducible rfl)
              try simp only [Act.put, List.setIfInBounds_toArray, List.set_cons_zero, List.set_cons_succ]
              refine wpAnyH_take (i := 4) (oi := { dst := some 24, op := Go.Op.move (Go.Operand.tmp 23), type := 4, pos := "ref.go:123", after := #[{ on := 3, ground := Go.Ground.data }], guard := none }) (v := ?_) rfl (by kernel_rfl) (by kernel_rfl) (by kernel_rfl) (fun _ _ _ h => h) (Or.inl ⟨by rfl, ?_⟩) (by assumption) ?_
              rotate_left
              · (intro w hSw; (try dsimp only at hSw); go_simp <;> with_reducible rfl)
              try simp only [Act.put, List.setIfInBounds_toArray, List.set_cons_zero, List.set_cons_succ]
              refine wpAnyH_take (i := 5) (oi := { dst := some 25, op := Go.Op.fieldAddr 33 (Go.Operand.tmp 1) 1, type := 0, pos := "ref.go:123", after := #[{ on := 4, ground := Go.Ground.guard }], guard := some (4, true) }) (v := undef) rfl (by kernel_rfl) (by kernel_rfl) (by kernel_rfl) (fun _ _ _ h => h) (Or.inr ⟨by rfl, rfl⟩) (by assumption) ?_
              try simp only [Act.put, List.setIfInBounds_toArray, List.set_cons_zero, List.set_cons_succ]
              refine wpAnyH_take (i := 6) (oi := { dst := some 26, op := Go.Op.load 31 (Go.Operand.tmp 25), type := 31, pos := "ref.go:123", after := #[{ on := 5, ground := Go.Ground.data }, { on := 4, ground := Go.Ground.guard }], guard := some (4, true) }) (v := undef) rfl (by kernel_rfl) (by kernel_rfl) (by kernel_rfl) (fun _ _ _ h => h) (Or.inr ⟨by rfl, rfl⟩) (by assumption) ?_
              try simp only [Act.put, List.setIfInBounds_toArray, List.set_cons_zero, List.set_cons_succ]
              refine wpAnyH_take (i := 7) (oi := { dst := some 27, op := Go.Op.move (Go.Operand.tmp 3), type := 28, pos := "ref.go:123", after := #[{ on := 4, ground := Go.Ground.guard }], guard := some (4, true) }) (v := undef) rfl (by kernel_rfl) (by kernel_rfl) (by kernel_rfl) (fun _ _ _ h => h) (Or.inr ⟨by rfl, rfl⟩) (by assumption) ?_
              try simp only [Act.put, List.setIfInBounds_toArray, List.set_cons_zero, List.set_cons_succ]
              refine wpAnyH_take (i := 8) (oi := { dst := some 28, op := Go.Op.move (Go.Operand.tmp 5), type := 3, pos := "ref.go:123", after := #[{ on := 4, ground := Go.Ground.guard }], guard := some (4, true) }) (v := undef) rfl (by kernel_rfl) (by kernel_rfl) (by kernel_rfl) (fun _ _ _ h => h) (Or.inr ⟨by rfl, rfl⟩) (by assumption) ?_
              try simp only [Act.put, List.setIfInBounds_toArray, List.set_cons_zero, List.set_cons_succ]
              refine wpAnyH_take (i := 9) (oi := { dst := some 29, op := Go.Op.indexAddr 28 (Go.Operand.tmp 27) (Go.Operand.tmp 28), type := 0, pos := "ref.go:123", after := #[{ on := 7, ground := Go.Ground.data }, { on := 8, ground := Go.Ground.data }, { on := 4, ground := Go.Ground.guard }], guard := some (4, true) }) (v := undef) rfl (by kernel_rfl) (by kernel_rfl) (by kernel_rfl) (fun _ _ _ h => h) (Or.inr ⟨by rfl, rfl⟩) (by assumption) ?_
              try simp only [Act.put, List.setIfInBounds_toArray, List.set_cons_zero, List.set_cons_succ]
              refine wpAnyH_take (i := 10) (oi := { dst := some 30, op := Go.Op.load 3 (Go.Operand.tmp 29), type := 3, pos := "ref.go:123", after := #[{ on := 9, ground := Go.Ground.data }, { on := 4, ground := Go.Ground.guard }], guard := some (4, true) }) (v := undef) rfl (by kernel_rfl) (by kernel_rfl) (by kernel_rfl) (fun _ _ _ h => h) (Or.inr ⟨by rfl, rfl⟩) (by assumption) ?_
              try simp only [Act.put, List.setIfInBounds_toArray, List.set_cons_zero, List.set_cons_succ]
              refine wpAnyH_take (i := 11) (oi := { dst := some 31, op := Go.Op.indexAddr 31 (Go.Operand.tmp 26) (Go.Operand.tmp 30), type := 0, pos := "ref.go:123", after := #[{ on := 6, ground := Go.Ground.data }, { on := 10, ground := Go.Ground.data }, { on := 4, ground := Go.Ground.guard }], guard := some (4, true) }) (v := undef) rfl (by kernel_rfl) (by kernel_rfl) (by kernel_rfl) (fun _ _ _ h => h) (Or.inr ⟨by rfl, rfl⟩) (by assumption) ?_
              try simp only [Act.put, List.setIfInBounds_toArray, List.set_cons_zero, List.set_cons_succ]
              refine wpAnyH_take (i := 12) (oi := { dst := some 32, op := Go.Op.load 50 (Go.Operand.tmp 31), type := 50, pos := "ref.go:123", after := #[{ on := 11, ground := Go.Ground.data }, { on := 4, ground := Go.Ground.guard }], guard := some (4, true) }) (v := undef) rfl (by kernel_rfl) (by kernel_rfl) (by kernel_rfl) (fun _ _ _ h => h) (Or.inr ⟨by rfl, rfl⟩) (by assumption) ?_
              try simp only [Act.put, List.setIfInBounds_toArray, List.set_cons_zero, List.set_cons_succ]
              refine wpAnyH_take (i := 13) (oi := { dst := some 33, op := Go.Op.fieldAddr 33 (Go.Operand.tmp 1) 1, type := 0, pos := "ref.go:123", after := #[{ on := 4, ground := Go.Ground.guard }], guard := some (4, true) }) (v := undef) rfl (by kernel_rfl) (by kernel_rfl) (by kernel_rfl) (fun _ _ _ h => h) (Or.inr ⟨by rfl, rfl⟩) (by assumption) ?_
              try simp only [Act.put, List.setIfInBounds_toArray, List.set_cons_zero, List.set_cons_succ]
              refine wpAnyH_take (i := 14) (oi := { dst := some 34, op := Go.Op.load 31 (Go.Operand.tmp 33), type := 31, pos := "ref.go:123", after := #[{ on := 13, ground := Go.Ground.data }, { on := 4, ground := Go.Ground.guard }], guard := some (4, true) }) (v := undef) rfl (by kernel_rfl) (by kernel_rfl) (by kernel_rfl) (fun _ _ _ h => h) (Or.inr ⟨by rfl, rfl⟩) (by assumption) ?_
              try simp only [Act.put, List.setIfInBounds_toArray, List.set_cons_zero, List.set_cons_succ]
              refine wpAnyH_take (i := 15) (oi := { dst := some 35, op := Go.Op.move (Go.Operand.tmp 4), type := 3, pos := "ref.go:123", after := #[{ on := 4, ground := Go.Ground.guard }], guard := some (4, true) }) (v := undef) rfl (by kernel_rfl) (by kernel_rfl) (by kernel_rfl) (fun _ _ _ h => h) (Or.inr ⟨by rfl, rfl⟩) (by assumption) ?_
              try simp only [Act.put, List.setIfInBounds_toArray, List.set_cons_zero, List.set_cons_succ]
              refine wpAnyH_take (i := 16) (oi := { dst := some 36, op := Go.Op.indexAddr 31 (Go.Operand.tmp 34) (Go.Operand.tmp 35), type := 0, pos := "ref.go:123", after := #[{ on := 14, ground := Go.Ground.data }, { on := 15, ground := Go.Ground.data }, { on := 4, ground := Go.Ground.guard }], guard := some (4, true) }) (v := undef) rfl (by kernel_rfl) (by kernel_rfl) (by kernel_rfl) (fun _ _ _ h => h) (Or.inr ⟨by rfl, rfl⟩) (by assumption) ?_
              try simp only [Act.put, List.setIfInBounds_toArray, List.set_cons_zero, List.set_cons_succ]
              refine wpAnyH_take (i := 17) (oi := { dst := some 37, op := Go.Op.load 50 (Go.Operand.tmp 36), type := 50, pos := "ref.go:123", after := #[{ on := 16, ground := Go.Ground.data }, { on := 4, ground := Go.Ground.guard }], guard := some (4, true) }) (v := undef) rfl (by kernel_rfl) (by kernel_rfl) (by kernel_rfl) (fun _ _ _ h => h) (Or.inr ⟨by rfl, rfl⟩) (by assumption) ?_
              try simp only [Act.put, List.setIfInBounds_toArray, List.set_cons_zero, List.set_cons_succ]
              refine wpAnyH_take (i := 18) (oi := { dst := some 38, op := Go.Op.call { callee := Go.Callee.value (Go.Operand.func 87), args := #[Go.Operand.tmp 32, Go.Operand.tmp 37], argTypes := #[50, 50] }, type := 4, pos := "ref.go:123", after := #[{ on := 12, ground := Go.Ground.data }, { on := 17, ground := Go.Ground.data }, { on := 4, ground := Go.Ground.chain }, { on := 4, ground := Go.Ground.guard }], guard := some (4, true) }) (v := undef) rfl (by kernel_rfl) (by kernel_rfl) (by kernel_rfl) (fun _ _ _ h => h) (Or.inr ⟨by rfl, rfl⟩) (by assumption) ?_
              try simp only [Act.put, List.setIfInBounds_toArray, List.set_cons_zero, List.set_cons_succ]
              refine wpAnyH_take (i := 19) (oi := { dst := some 39, op := Go.Op.pick (Go.Operand.tmp 24) (Go.Operand.tmp 38) (Go.Operand.const (Go.Value.bool false)), type := 4, pos := "ref.go:123", after := #[{ on := 4, ground := Go.Ground.data }, { on := 18, ground := Go.Ground.data }], guard := none }) (v := ?_) rfl (by kernel_rfl) (by kernel_rfl) (by kernel_rfl) (fun _ _ _ h => h) (Or.inl ⟨by rfl, ?_⟩) (by assumption) ?_
              rotate_left
              · (intro w hSw; (try dsimp only at hSw); go_simp <;> with_reducible rfl)
              try simp only [Act.put, List.setIfInBounds_toArray, List.set_cons_zero, List.set_cons_succ]
              refine wpAnyH_done (by kernel_rfl) ?_ _
              obtain ⟨VV, hVV⟩ : ∃ VV, VV = V.drew := ⟨_, rfl⟩
              have HBVV : Hid (Below W0.heap.size W0 VV) := by rw [hVV]; exact HBV.out.drew
              have HSLV2 := Lib.hid (HSLV.out.drew)
              rw [← hVV] at HSLV2
              rw [← hVV]
              clear hVV HSLV2
              have HA0 : Hid (∀ o, Below VV.heap.size VV (VV.drew.alloc o)) := fun o => ((Below.refl VV.heap.size VV).drew).alloc (Nat.le_refl _) o
              have HB0 : Hid (([] : List Nat).length + 1 ≤ 1000000) := by unfold Hid; simp
              have HL2 : Hid ([] ++ [j] = L2) := by unfold Hid; rw [← hL2]; simp
              clear hL2
              go_wp2_with fail
              go_region_law (first
                  | (refine step_append_noneV rfl (.const (.slice none 0 0)) (.tmp 44) rfl VV.heap.size (.slice none 0 0) [] (by kernel_rfl) (World.ownsRow_nil _ _ _ _) (by kernel_rfl) ?_)
                  | (refine step_append_intsV rfl (.tmp 45) (.tmp 47) rfl VV.heap.size (.slice none 0 0) [] (by kernel_rfl) (World.ownsRow_nil _ _ _ _) ⟨VV.heap.size, 0, none⟩ 1 1 [j] (by kernel_rfl) (sl_oneN VV.drew 3 j) HB0.out (by simp) ?_; intro v2 w2 hown2 hg2; have hB2 : Below VV.heap.size VV w2 := (HA0.out _).grown hg2 (by simp) (fun q hq => by cases hq); have K2 := Lib.hid (And.intro hown2 hB2); clear hown2 hg2 hB2)
                  | (refine step_append_noneV rfl (.tmp 48) (.tmp 51) rfl VV.heap.size v2 ([] ++ [j]) (by kernel_rfl) K2.out.1 (by kernel_rfl) ?_))
              all_goals
                have HR : Hid (∀ v wx, OwnV wx VV.heap.size 3 v (L2.map intV) → Below VV.heap.size VV wx → AxRel D W0 v (.int .i64 ((j : Int) + 1)) wx) := fun v wx hownc hbc => ⟨j + 1, by omega, by rw [Int.natCast_add]; rfl, by rw [HSTEP.out]; exact own_base' hownc HBVV.out.size, HBVV.out.trans (hbc.mono HBVV.out.size)⟩
                have HRR := Lib.hid (HR.out _ _ (by rw [← HL2.out]; exact K2.out.1) K2.out.2)
                clear HR
                go_wp2_with fail
                go_roundw
                case rel => exact HRR.out
                case measure => simp [intOf]; omega
            · by_cases hck : cp = bf
              · subst hck
                go_wp2_with fail
                refine wp_region_held_drew (S := (fun w' => Below V.heap.size V w')) (by kernel_rfl) ?_ (fun hHeld => ?_)
                · exact (Below.refl _ _).drew
                refine wpAnyH_take (i := 0) (oi := { dst := some 20, op := Go.Op.move (Go.Operand.tmp 5), type := 3, pos := "ref.go:123", after := #[], guard := none }) (v := ?_) rfl (by kernel_rfl) (by kernel_rfl) (by kernel_rfl) (fun _ _ _ h => h) (Or.inl ⟨by rfl, ?_⟩) (by assumption) ?_
                rotate_left
                · (intro w hSw; (try dsimp only at hSw); go_simp <;> with_reducible rfl)
                try simp only [Act.put, List.setIfInBounds_toArray, List.set_cons_zero, List.set_cons_succ]
                refine wpAnyH_take (i := 1) (oi := { dst := some 21, op := Go.Op.move (Go.Operand.tmp 3), type := 28, pos := "ref.go:123", after := #[], guard := none }) (v := ?_) rfl (by kernel_rfl) (by kernel_rfl) (by kernel_rfl) (fun _ _ _ h => h) (Or.inl ⟨by rfl, ?_⟩) (by assumption) ?_
                rotate_left
                · (intro w hSw; (try dsimp only at hSw); go_simp <;> with_reducible rfl)
                try simp only [Act.put, List.setIfInBounds_toArray, List.set_cons_zero, List.set_cons_succ]
                refine wpAnyH_take (i := 2) (oi := { dst := some 22, op := Go.Op.call { callee := Go.Callee.builtin Go.Builtin.len, args := #[Go.Operand.tmp 21], argTypes := #[28] }, type := 3, pos := "ref.go:123", after := #[{ on := 1, ground := Go.Ground.data }], guard := none }) (v := ?_) rfl (by kernel_rfl) (by kernel_rfl) (by kernel_rfl) (fun _ _ _ h => h) (Or.inl ⟨by rfl, ?_⟩) (by assumption) ?_
                rotate_left
                · (intro w hSw; (try dsimp only at hSw); go_simp <;> with_reducible rfl)
                try simp only [Act.put, List.setIfInBounds_toArray, List.set_cons_zero, List.set_cons_succ]
                refine wpAnyH_take (i := 3) (oi := { dst := some 23, op := Go.Op.binOp Go.BinOp.lss 3 (Go.Operand.tmp 20) (Go.Operand.tmp 22) 3, type := 4, pos := "ref.go:123", after := #[{ on := 0, ground := Go.Ground.data }, { on := 2, ground := Go.Ground.data }], guard := none }) (v := ?_) rfl (by kernel_rfl) (by kernel_rfl) (by kernel_rfl) (fun _ _ _ h => h) (Or.inl ⟨by rfl, ?_⟩) (by assumption) ?_
                rotate_left
                · (intro w hSw; (try dsimp only at hSw); go_simp <;> with_reducible rfl)
                try simp only [Act.put, List.setIfInBounds_toArray, List.set_cons_zero, List.set_cons_succ]
                refine wpAnyH_take (i := 4) (oi := { dst := some 24, op := Go.Op.move (Go.Operand.tmp 23), type := 4, pos := "ref.go:123", after := #[{ on := 3, ground := Go.Ground.data }], guard := none }) (v := ?_) rfl (by kernel_rfl) (by kernel_rfl) (by kernel_rfl) (fun _ _ _ h => h) (Or.inl ⟨by rfl, ?_⟩) (by assumption) ?_
                rotate_left
                · (intro w hSw; (try dsimp only at hSw); go_simp <;> with_reducible rfl)
                try simp only [Act.put, List.setIfInBounds_toArray, List.set_cons_zero, List.set_cons_succ]
                refine wpAnyH_take (i := 5) (oi := { dst := some 25, op := Go.Op.fieldAddr 33 (Go.Operand.tmp 1) 1, type := 0, pos := "ref.go:123", after := #[{ on := 4, ground := Go.Ground.guard }], guard := some (4, true) }) (v := undef) rfl (by kernel_rfl) (by kernel_rfl) (by kernel_rfl) (fun _ _ _ h => h) (Or.inr ⟨by rfl, rfl⟩) (by assumption) ?_
                try simp only [Act.put, List.setIfInBounds_toArray, List.set_cons_zero, List.set_cons_succ]
                refine wpAnyH_take (i := 6) (oi := { dst := some 26, op := Go.Op.load 31 (Go.Operand.tmp 25), type := 31, pos := "ref.go:123", after := #[{ on := 5, ground := Go.Ground.data }, { on := 4, ground := Go.Ground.guard }], guard := some (4, true) }) (v := undef) rfl (by kernel_rfl) (by kernel_rfl) (by kernel_rfl) (fun _ _ _ h => h) (Or.inr ⟨by rfl, rfl⟩) (by assumption) ?_
                try simp only [Act.put, List.setIfInBounds_toArray, List.set_cons_zero, List.set_cons_succ]
                refine wpAnyH_take (i := 7) (oi := { dst := some 27, op := Go.Op.move (Go.Operand.tmp 3), type := 28, pos := "ref.go:123", after := #[{ on := 4, ground := Go.Ground.guard }], guard := some (4, true) }) (v := undef) rfl (by kernel_rfl) (by kernel_rfl) (by kernel_rfl) (fun _ _ _ h => h) (Or.inr ⟨by rfl, rfl⟩) (by assumption) ?_
                try simp only [Act.put, List.setIfInBounds_toArray, List.set_cons_zero, List.set_cons_succ]
                refine wpAnyH_take (i := 8) (oi := { dst := some 28, op := Go.Op.move (Go.Operand.tmp 5), type := 3, pos := "ref.go:123", after := #[{ on := 4, ground := Go.Ground.guard }], guard := some (4, true) }) (v := undef) rfl (by kernel_rfl) (by kernel_rfl) (by kernel_rfl) (fun _ _ _ h => h) (Or.inr ⟨by rfl, rfl⟩) (by assumption) ?_
                try simp only [Act.put, List.setIfInBounds_toArray, List.set_cons_zero, List.set_cons_succ]
                refine wpAnyH_take (i := 9) (oi := { dst := some 29, op := Go.Op.indexAddr 28 (Go.Operand.tmp 27) (Go.Operand.tmp 28), type := 0, pos := "ref.go:123", after := #[{ on := 7, ground := Go.Ground.data }, { on := 8, ground := Go.Ground.data }, { on := 4, ground := Go.Ground.guard }], guard := some (4, true) }) (v := undef) rfl (by kernel_rfl) (by kernel_rfl) (by kernel_rfl) (fun _ _ _ h => h) (Or.inr ⟨by rfl, rfl⟩) (by assumption) ?_
                try simp only [Act.put, List.setIfInBounds_toArray, List.set_cons_zero, List.set_cons_succ]
                refine wpAnyH_take (i := 10) (oi := { dst := some 30, op := Go.Op.load 3 (Go.Operand.tmp 29), type := 3, pos := "ref.go:123", after := #[{ on := 9, ground := Go.Ground.data }, { on := 4, ground := Go.Ground.guard }], guard := some (4, true) }) (v := undef) rfl (by kernel_rfl) (by kernel_rfl) (by kernel_rfl) (fun _ _ _ h => h) (Or.inr ⟨by rfl, rfl⟩) (by assumption) ?_
                try simp only [Act.put, List.setIfInBounds_toArray, List.set_cons_zero, List.set_cons_succ]
                refine wpAnyH_take (i := 11) (oi := { dst := some 31, op := Go.Op.indexAddr 31 (Go.Operand.tmp 26) (Go.Operand.tmp 30), type := 0, pos := "ref.go:123", after := #[{ on := 6, ground := Go.Ground.data }, { on := 10, ground := Go.Ground.data }, { on := 4, ground := Go.Ground.guard }], guard := some (4, true) }) (v := undef) rfl (by kernel_rfl) (by kernel_rfl) (by kernel_rfl) (fun _ _ _ h => h) (Or.inr ⟨by rfl, rfl⟩) (by assumption) ?_
                try simp only [Act.put, List.setIfInBounds_toArray, List.set_cons_zero, List.set_cons_succ]
                refine wpAnyH_take (i := 12) (oi := { dst := some 32, op := Go.Op.load 50 (Go.Operand.tmp 31), type := 50, pos := "ref.go:123", after := #[{ on := 11, ground := Go.Ground.data }, { on := 4, ground := Go.Ground.guard }], guard := some (4, true) }) (v := undef) rfl (by kernel_rfl) (by kernel_rfl) (by kernel_rfl) (fun _ _ _ h => h) (Or.inr ⟨by rfl, rfl⟩) (by assumption) ?_
                try simp only [Act.put, List.setIfInBounds_toArray, List.set_cons_zero, List.set_cons_succ]
                refine wpAnyH_take (i := 13) (oi := { dst := some 33, op := Go.Op.fieldAddr 33 (Go.Operand.tmp 1) 1, type := 0, pos := "ref.go:123", after := #[{ on := 4, ground := Go.Ground.guard }], guard := some (4, true) }) (v := undef) rfl (by kernel_rfl) (by kernel_rfl) (by kernel_rfl) (fun _ _ _ h => h) (Or.inr ⟨by rfl, rfl⟩) (by assumption) ?_
                try simp only [Act.put, List.setIfInBounds_toArray, List.set_cons_zero, List.set_cons_succ]
                refine wpAnyH_take (i := 14) (oi := { dst := some 34, op := Go.Op.load 31 (Go.Operand.tmp 33), type := 31, pos := "ref.go:123", after := #[{ on := 13, ground := Go.Ground.data }, { on := 4, ground := Go.Ground.guard }], guard := some (4, true) }) (v := undef) rfl (by kernel_rfl) (by kernel_rfl) (by kernel_rfl) (fun _ _ _ h => h) (Or.inr ⟨by rfl, rfl⟩) (by assumption) ?_
                try simp only [Act.put, List.setIfInBounds_toArray, List.set_cons_zero, List.set_cons_succ]
                refine wpAnyH_take (i := 15) (oi := { dst := some 35, op := Go.Op.move (Go.Operand.tmp 4), type := 3, pos := "ref.go:123", after := #[{ on := 4, ground := Go.Ground.guard }], guard := some (4, true) }) (v := undef) rfl (by kernel_rfl) (by kernel_rfl) (by kernel_rfl) (fun _ _ _ h => h) (Or.inr ⟨by rfl, rfl⟩) (by assumption) ?_
                try simp only [Act.put, List.setIfInBounds_toArray, List.set_cons_zero, List.set_cons_succ]
                refine wpAnyH_take (i := 16) (oi := { dst := some 36, op := Go.Op.indexAddr 31 (Go.Operand.tmp 34) (Go.Operand.tmp 35), type := 0, pos := "ref.go:123", after := #[{ on := 14, ground := Go.Ground.data }, { on := 15, ground := Go.Ground.data }, { on := 4, ground := Go.Ground.guard }], guard := some (4, true) }) (v := undef) rfl (by kernel_rfl) (by kernel_rfl) (by kernel_rfl) (fun _ _ _ h => h) (Or.inr ⟨by rfl, rfl⟩) (by assumption) ?_
                try simp only [Act.put, List.setIfInBounds_toArray, List.set_cons_zero, List.set_cons_succ]
                refine wpAnyH_take (i := 17) (oi := { dst := some 37, op := Go.Op.load 50 (Go.Operand.tmp 36), type := 50, pos := "ref.go:123", after := #[{ on := 16, ground := Go.Ground.data }, { on := 4, ground := Go.Ground.guard }], guard := some (4, true) }) (v := undef) rfl (by kernel_rfl) (by kernel_rfl) (by kernel_rfl) (fun _ _ _ h => h) (Or.inr ⟨by rfl, rfl⟩) (by assumption) ?_
                try simp only [Act.put, List.setIfInBounds_toArray, List.set_cons_zero, List.set_cons_succ]
                refine wpAnyH_take (i := 18) (oi := { dst := some 38, op := Go.Op.call { callee := Go.Callee.value (Go.Operand.func 87), args := #[Go.Operand.tmp 32, Go.Operand.tmp 37], argTypes := #[50, 50] }, type := 4, pos := "ref.go:123", after := #[{ on := 12, ground := Go.Ground.data }, { on := 17, ground := Go.Ground.data }, { on := 4, ground := Go.Ground.chain }, { on := 4, ground := Go.Ground.guard }], guard := some (4, true) }) (v := undef) rfl (by kernel_rfl) (by kernel_rfl) (by kernel_rfl) (fun _ _ _ h => h) (Or.inr ⟨by rfl, rfl⟩) (by assumption) ?_
                try simp only [Act.put, List.setIfInBounds_toArray, List.set_cons_zero, List.set_cons_succ]
                refine wpAnyH_take (i := 19) (oi := { dst := some 39, op := Go.Op.pick (Go.Operand.tmp 24) (Go.Operand.tmp 38) (Go.Operand.const (Go.Value.bool false)), type := 4, pos := "ref.go:123", after := #[{ on := 4, ground := Go.Ground.data }, { on := 18, ground := Go.Ground.data }], guard := none }) (v := ?_) rfl (by kernel_rfl) (by kernel_rfl) (by kernel_rfl) (fun _ _ _ h => h) (Or.inl ⟨by rfl, ?_⟩) (by assumption) ?_
                rotate_left
                · (intro w hSw; (try dsimp only at hSw); go_simp <;> with_reducible rfl)
                try simp only [Act.put, List.setIfInBounds_toArray, List.set_cons_zero, List.set_cons_succ]
                refine wpAnyH_done (by kernel_rfl) ?_ _
                obtain ⟨VV, hVV⟩ : ∃ VV, VV = V.drew := ⟨_, rfl⟩
                have HBVV : Hid (Below W0.heap.size W0 VV) := by rw [hVV]; exact HBV.out.drew
                have HSLV2 := Lib.hid (HSLV.out.drew)
                rw [← hVV] at HSLV2
                rw [← hVV]
                clear hVV
                have H1 : Hid (SL VV.drew (some ⟨g, 0, none⟩) cp ((L.take cp).map Int.ofNat)) := by unfold Hid; rw [List.map_take]; exact (HSLV2.out.take_ (by omega)).drew
                have H2 : Hid (SL VV (some ⟨g, 0, none⟩) 0 ((L.drop cp).map Int.ofNat)) := by rw [List.drop_of_length_le (by rw [HLN.out]; omega)]; exact ⟨rfl, fun q => absurd q (by omega)⟩
                have HN0 : Hid (OwnV VV.drew VV.heap.size 3 (.slice none 0 0) (([] : List Nat).map intV)) := World.ownsRow_nil _ _ _ _
                have HN1 : Hid (∀ o, OwnV (VV.drew.alloc o) VV.heap.size 3 (.slice none 0 0) (([] : List Nat).map intV)) := fun _ => World.ownsRow_nil _ _ _ _
                have HA0 : Hid (∀ o, Below VV.heap.size VV (VV.drew.alloc o)) := fun o => ((Below.refl VV.heap.size VV).drew).alloc (Nat.le_refl _) o
                have HB1 : Hid (([] : List Nat).length + cp ≤ 1000000) := by unfold Hid; simp; omega
                have HB2 : Hid (([] ++ L.take cp).length + 1 ≤ 1000000) := by unfold Hid; rw [List.nil_append, List.length_take]; omega
                have HB3 : Hid ((([] ++ L.take cp) ++ [j]).length + (0) ≤ 1000000) := by unfold Hid; rw [List.nil_append, List.length_append, List.length_take, HLN.out]; simp; omega
                have HL2 : Hid ((([] ++ L.take cp) ++ [j]) ++ L.drop cp = L2) := by unfold Hid; rw [List.nil_append]; exact hL2
                have hkn : (cp : Int) ≤ (cp : Int) := by omega
                have hlci : (cp : Int) ≤ (cp : Int) := by omega
                have hkc2 : (cp : Int) ≤ (cp : Int) := by omega
                clear hL2
                go_wp2_with fail
                go_region_law (first
                    | (refine step_append_intsV rfl (.const (.slice none 0 0)) (.tmp 44) rfl VV.heap.size (.slice none 0 0) [] (by kernel_rfl) HN0.out ⟨g, 0, none⟩ cp cp (L.take cp) (by kernel_rfl) H1.out HB1.out (Nat.le_refl _) ?_; intro v1 w1 hown1 hg1; have hB1 : Below VV.heap.size VV w1 := ((Below.refl VV.heap.size VV).drew).grown hg1 (Nat.le_refl _) (fun q hq => by cases hq); have K1 := Lib.hid (And.intro hown1 hB1); clear hown1 hg1 hB1)
                    | (refine step_append_intsV rfl (.tmp 45) (.tmp 47) rfl VV.heap.size v1 ([] ++ L.take cp) (by kernel_rfl) (K1.out.1.below ((Below.refl _ w1).alloc (Nat.le_refl _) _)) ⟨w1.heap.size, 0, none⟩ 1 1 [j] (by kernel_rfl) (sl_oneN w1 3 j) HB2.out (Nat.le_trans K1.out.2.size (by simp)) ?_; intro v2 w2 hown2 hg2; have hB2 : Below VV.heap.size VV w2 := (K1.out.2.alloc K1.out.2.size _).grown hg2 (Nat.le_trans K1.out.2.size (by simp)) (fun q hq => (K1.out.1.lt q hq).1); have K2 := Lib.hid (And.intro hown2 hB2); clear hown2 hg2 hB2)
                    | (refine step_append_intsV rfl (.const (.slice none 0 0)) (.tmp 44) rfl VV.heap.size (.slice none 0 0) [] (by kernel_rfl) (HN1.out _) ⟨g, 0, none⟩ cp cp (L.take cp) (by kernel_rfl) (H1.out.alloc _) HB1.out (by simp) ?_; intro v1 w1 hown1 hg1; have hGG := (sl_oneN VV.drew 3 j).below ((Below.refl _ _).grown hg1 (Nat.le_refl _) (fun q hq => by cases hq)); have hB1 : Below VV.heap.size VV w1 := (HA0.out _).grown hg1 (by simp) (fun q hq => by cases hq); have J1 := Lib.hid (And.intro hown1 (And.intro hB1 hGG)); clear hown1 hg1 hB1 hGG)
                    | (refine step_append_intsV rfl (.tmp 45) (.tmp 47) rfl VV.heap.size v1 ([] ++ L.take cp) (by kernel_rfl) J1.out.1 ⟨VV.heap.size, 0, none⟩ 1 1 [j] (by kernel_rfl) J1.out.2.2 HB2.out J1.out.2.1.size ?_; intro v2 w2 hown2 hg2; have hB2 : Below VV.heap.size VV w2 := J1.out.2.1.grown hg2 J1.out.2.1.size (fun q hq => (J1.out.1.lt q hq).1); have K2 := Lib.hid (And.intro hown2 hB2); clear hown2 hg2 hB2)
                    | (refine step_append_intsV rfl (.tmp 48) (.tmp 51) rfl VV.heap.size v2 (([] ++ L.take cp) ++ [j]) (by kernel_rfl) K2.out.1 ⟨g, 0, none⟩ 0 0 (L.drop cp) (by kernel_rfl) (H2.out.below K2.out.2) HB3.out K2.out.2.size ?_; intro v3 w3 hown3 hg3; have hB3 : Below VV.heap.size VV w3 := K2.out.2.grown hg3 K2.out.2.size (fun q hq => (K2.out.1.lt q hq).1); have K3 := Lib.hid (And.intro hown3 hB3); clear hown3 hg3 hB3))
                all_goals
                  have HR : Hid (∀ v wx, OwnV wx VV.heap.size 3 v (L2.map intV) → Below VV.heap.size VV wx → AxRel D W0 v (.int .i64 ((j : Int) + 1)) wx) := fun v wx hownc hbc => ⟨j + 1, by omega, by rw [Int.natCast_add]; rfl, by rw [HSTEP.out]; exact own_base' hownc HBVV.out.size, HBVV.out.trans (hbc.mono HBVV.out.size)⟩
                  have HRR := Lib.hid (HR.out _ _ (by rw [← HL2.out]; exact K3.out.1) K3.out.2)
                  clear HR
                  go_wp2_with fail
                  go_roundw
                  case rel => exact HRR.out
                  case measure => simp [intOf]; omega
              · go_wp2_with fail
                refine wp_region_held_drew (S := (fun w' => Below V.heap.size V w')) (by kernel_rfl) ?_ (fun hHeld => ?_)
                · exact (Below.refl _ _).drew
                refine wpAnyH_take (i := 0) (oi := { dst := some 20, op := Go.Op.move (Go.Operand.tmp 5), type := 3, pos := "ref.go:123", after := #[], guard := none }) (v := ?_) rfl (by kernel_rfl) (by kernel_rfl) (by kernel_rfl) (fun _ _ _ h => h) (Or.inl ⟨by rfl, ?_⟩) (by assumption) ?_
                rotate_left
                · (intro w hSw; (try dsimp only at hSw); go_simp <;> with_reducible rfl)
                try simp only [Act.put, List.setIfInBounds_toArray, List.set_cons_zero, List.set_cons_succ]
                refine wpAnyH_take (i := 1) (oi := { dst := some 21, op := Go.Op.move (Go.Operand.tmp 3), type := 28, pos := "ref.go:123", after := #[], guard := none }) (v := ?_) rfl (by kernel_rfl) (by kernel_rfl) (by kernel_rfl) (fun _ _ _ h => h) (Or.inl ⟨by rfl, ?_⟩) (by assumption) ?_
                rotate_left
                · (intro w hSw; (try dsimp only at hSw); go_simp <;> with_reducible rfl)
                try simp only [Act.put, List.setIfInBounds_toArray, List.set_cons_zero, List.set_cons_succ]
                refine wpAnyH_take (i := 2) (oi := { dst := some 22, op := Go.Op.call { callee := Go.Callee.builtin Go.Builtin.len, args := #[Go.Operand.tmp 21], argTypes := #[28] }, type := 3, pos := "ref.go:123", after := #[{ on := 1, ground := Go.Ground.data }], guard := none }) (v := ?_) rfl (by kernel_rfl) (by kernel_rfl) (by kernel_rfl) (fun _ _ _ h => h) (Or.inl ⟨by rfl, ?_⟩) (by assumption) ?_
                rotate_left
                · (intro w hSw; (try dsimp only at hSw); go_simp <;> with_reducible rfl)
                try simp only [Act.put, List.setIfInBounds_toArray, List.set_cons_zero, List.set_cons_succ]
                refine wpAnyH_take (i := 3) (oi := { dst := some 23, op := Go.Op.binOp Go.BinOp.lss 3 (Go.Operand.tmp 20) (Go.Operand.tmp 22) 3, type := 4, pos := "ref.go:123", after := #[{ on := 0, ground := Go.Ground.data }, { on := 2, ground := Go.Ground.data }], guard := none }) (v := ?_) rfl (by kernel_rfl) (by kernel_rfl) (by kernel_rfl) (fun _ _ _ h => h) (Or.inl ⟨by rfl, ?_⟩) (by assumption) ?_
                rotate_left
                · (intro w hSw; (try dsimp only at hSw); go_simp <;> with_reducible rfl)
                try simp only [Act.put, List.setIfInBounds_toArray, List.set_cons_zero, List.set_cons_succ]
                refine wpAnyH_take (i := 4) (oi := { dst := some 24, op := Go.Op.move (Go.Operand.tmp 23), type := 4, pos := "ref.go:123", after := #[{ on := 3, ground := Go.Ground.data }], guard := none }) (v := ?_) rfl (by kernel_rfl) (by kernel_rfl) (by kernel_rfl) (fun _ _ _ h => h) (Or.inl ⟨by rfl, ?_⟩) (by assumption) ?_
                rotate_left
                · (intro w hSw; (try dsimp only at hSw); go_simp <;> with_reducible rfl)
                try simp only [Act.put, List.setIfInBounds_toArray, List.set_cons_zero, List.set_cons_succ]
                refine wpAnyH_take (i := 5) (oi := { dst := some 25, op := Go.Op.fieldAddr 33 (Go.Operand.tmp 1) 1, type := 0, pos := "ref.go:123", after := #[{ on := 4, ground := Go.Ground.guard }], guard := some (4, true) }) (v := undef) rfl (by kernel_rfl) (by kernel_rfl) (by kernel_rfl) (fun _ _ _ h => h) (Or.inr ⟨by rfl, rfl⟩) (by assumption) ?_
                try simp only [Act.put, List.setIfInBounds_toArray, List.set_cons_zero, List.set_cons_succ]
                refine wpAnyH_take (i := 6) (oi := { dst := some 26, op := Go.Op.load 31 (Go.Operand.tmp 25), type := 31, pos := "ref.go:123", after := #[{ on := 5, ground := Go.Ground.data }, { on := 4, ground := Go.Ground.guard }], guard := some (4, true) }) (v := undef) rfl (by kernel_rfl) (by kernel_rfl) (by kernel_rfl) (fun _ _ _ h => h) (Or.inr ⟨by rfl, rfl⟩) (by assumption) ?_
                try simp only [Act.put, List.setIfInBounds_toArray, List.set_cons_zero, List.set_cons_succ]
                refine wpAnyH_take (i := 7) (oi := { dst := some 27, op := Go.Op.move (Go.Operand.tmp 3), type := 28, pos := "ref.go:123", after := #[{ on := 4, ground := Go.Ground.guard }], guard := some (4, true) }) (v := undef) rfl (by kernel_rfl) (by kernel_rfl) (by kernel_rfl) (fun _ _ _ h => h) (Or.inr ⟨by rfl, rfl⟩) (by assumption) ?_
                try simp only [Act.put, List.setIfInBounds_toArray, List.set_cons_zero, List.set_cons_succ]
                refine wpAnyH_take (i := 8) (oi := { dst := some 28, op := Go.Op.move (Go.Operand.tmp 5), type := 3, pos := "ref.go:123", after := #[{ on := 4, ground := Go.Ground.guard }], guard := some (4, true) }) (v := undef) rfl (by kernel_rfl) (by kernel_rfl) (by kernel_rfl) (fun _ _ _ h => h) (Or.inr ⟨by rfl, rfl⟩) (by assumption) ?_
                try simp only [Act.put, List.setIfInBounds_toArray, List.set_cons_zero, List.set_cons_succ]
                refine wpAnyH_take (i := 9) (oi := { dst := some 29, op := Go.Op.indexAddr 28 (Go.Operand.tmp 27) (Go.Operand.tmp 28), type := 0, pos := "ref.go:123", after := #[{ on := 7, ground := Go.Ground.data }, { on := 8, ground := Go.Ground.data }, { on := 4, ground := Go.Ground.guard }], guard := some (4, true) }) (v := undef) rfl (by kernel_rfl) (by kernel_rfl) (by kernel_rfl) (fun _ _ _ h => h) (Or.inr ⟨by rfl, rfl⟩) (by assumption) ?_
                try simp only [Act.put, List.setIfInBounds_toArray, List.set_cons_zero, List.set_cons_succ]
                refine wpAnyH_take (i := 10) (oi := { dst := some 30, op := Go.Op.load 3 (Go.Operand.tmp 29), type := 3, pos := "ref.go:123", after := #[{ on := 9, ground := Go.Ground.data }, { on := 4, ground := Go.Ground.guard }], guard := some (4, true) }) (v := undef) rfl (by kernel_rfl) (by kernel_rfl) (by kernel_rfl) (fun _ _ _ h => h) (Or.inr ⟨by rfl, rfl⟩) (by assumption) ?_
                try simp only [Act.put, List.setIfInBounds_toArray, List.set_cons_zero, List.set_cons_succ]
                refine wpAnyH_take (i := 11) (oi := { dst := some 31, op := Go.Op.indexAddr 31 (Go.Operand.tmp 26) (Go.Operand.tmp 30), type := 0, pos := "ref.go:123", after := #[{ on := 6, ground := Go.Ground.data }, { on := 10, ground := Go.Ground.data }, { on := 4, ground := Go.Ground.guard }], guard := some (4, true) }) (v := undef) rfl (by kernel_rfl) (by kernel_rfl) (by kernel_rfl) (fun _ _ _ h => h) (Or.inr ⟨by rfl, rfl⟩) (by assumption) ?_
                try simp only [Act.put, List.setIfInBounds_toArray, List.set_cons_zero, List.set_cons_succ]
                refine wpAnyH_take (i := 12) (oi := { dst := some 32, op := Go.Op.load 50 (Go.Operand.tmp 31), type := 50, pos := "ref.go:123", after := #[{ on := 11, ground := Go.Ground.data }, { on := 4, ground := Go.Ground.guard }], guard := some (4, true) }) (v := undef) rfl (by kernel_rfl) (by kernel_rfl) (by kernel_rfl) (fun _ _ _ h => h) (Or.inr ⟨by rfl, rfl⟩) (by assumption) ?_
                try simp only [Act.put, List.setIfInBounds_toArray, List.set_cons_zero, List.set_cons_succ]
                refine wpAnyH_take (i := 13) (oi := { dst := some 33, op := Go.Op.fieldAddr 33 (Go.Operand.tmp 1) 1, type := 0, pos := "ref.go:123", after := #[{ on := 4, ground := Go.Ground.guard }], guard := some (4, true) }) (v := undef) rfl (by kernel_rfl) (by kernel_rfl) (by kernel_rfl) (fun _ _ _ h => h) (Or.inr ⟨by rfl, rfl⟩) (by assumption) ?_
                try simp only [Act.put, List.setIfInBounds_toArray, List.set_cons_zero, List.set_cons_succ]
                refine wpAnyH_take (i := 14) (oi := { dst := some 34, op := Go.Op.load 31 (Go.Operand.tmp 33), type := 31, pos := "ref.go:123", after := #[{ on := 13, ground := Go.Ground.data }, { on := 4, ground := Go.Ground.guard }], guard := some (4, true) }) (v := undef) rfl (by kernel_rfl) (by kernel_rfl) (by kernel_rfl) (fun _ _ _ h => h) (Or.inr ⟨by rfl, rfl⟩) (by assumption) ?_
                try simp only [Act.put, List.setIfInBounds_toArray, List.set_cons_zero, List.set_cons_succ]
                refine wpAnyH_take (i := 15) (oi := { dst := some 35, op := Go.Op.move (Go.Operand.tmp 4), type := 3, pos := "ref.go:123", after := #[{ on := 4, ground := Go.Ground.guard }], guard := some (4, true) }) (v := undef) rfl (by kernel_rfl) (by kernel_rfl) (by kernel_rfl) (fun _ _ _ h => h) (Or.inr ⟨by rfl, rfl⟩) (by assumption) ?_
                try simp only [Act.put, List.setIfInBounds_toArray, List.set_cons_zero, List.set_cons_succ]
                refine wpAnyH_take (i := 16) (oi := { dst := some 36, op := Go.Op.indexAddr 31 (Go.Operand.tmp 34) (Go.Operand.tmp 35), type := 0, pos := "ref.go:123", after := #[{ on := 14, ground := Go.Ground.data }, { on := 15, ground := Go.Ground.data }, { on := 4, ground := Go.Ground.guard }], guard := some (4, true) }) (v := undef) rfl (by kernel_rfl) (by kernel_rfl) (by kernel_rfl) (fun _ _ _ h => h) (Or.inr ⟨by rfl, rfl⟩) (by assumption) ?_
                try simp only [Act.put, List.setIfInBounds_toArray, List.set_cons_zero, List.set_cons_succ]
                refine wpAnyH_take (i := 17) (oi := { dst := some 37, op := Go.Op.load 50 (Go.Operand.tmp 36), type := 50, pos := "ref.go:123", after := #[{ on := 16, ground := Go.Ground.data }, { on := 4, ground := Go.Ground.guard }], guard := some (4, true) }) (v := undef) rfl (by kernel_rfl) (by kernel_rfl) (by kernel_rfl) (fun _ _ _ h => h) (Or.inr ⟨by rfl, rfl⟩) (by assumption) ?_
                try simp only [Act.put, List.setIfInBounds_toArray, List.set_cons_zero, List.set_cons_succ]
                refine wpAnyH_take (i := 18) (oi := { dst := some 38, op := Go.Op.call { callee := Go.Callee.value (Go.Operand.func 87), args := #[Go.Operand.tmp 32, Go.Operand.tmp 37], argTypes := #[50, 50] }, type := 4, pos := "ref.go:123", after := #[{ on := 12, ground := Go.Ground.data }, { on := 17, ground := Go.Ground.data }, { on := 4, ground := Go.Ground.chain }, { on := 4, ground := Go.Ground.guard }], guard := some (4, true) }) (v := undef) rfl (by kernel_rfl) (by kernel_rfl) (by kernel_rfl) (fun _ _ _ h => h) (Or.inr ⟨by rfl, rfl⟩) (by assumption) ?_
                try simp only [Act.put, List.setIfInBounds_toArray, List.set_cons_zero, List.set_cons_succ]
                refine wpAnyH_take (i := 19) (oi := { dst := some 39, op := Go.Op.pick (Go.Operand.tmp 24) (Go.Operand.tmp 38) (Go.Operand.const (Go.Value.bool false)), type := 4, pos := "ref.go:123", after := #[{ on := 4, ground := Go.Ground.data }, { on := 18, ground := Go.Ground.data }], guard := none }) (v := ?_) rfl (by kernel_rfl) (by kernel_rfl) (by kernel_rfl) (fun _ _ _ h => h) (Or.inl ⟨by rfl, ?_⟩) (by assumption) ?_
                rotate_left
                · (intro w hSw; (try dsimp only at hSw); go_simp <;> with_reducible rfl)
                try simp only [Act.put, List.setIfInBounds_toArray, List.set_cons_zero, List.set_cons_succ]
                refine wpAnyH_done (by kernel_rfl) ?_ _
                obtain ⟨VV, hVV⟩ : ∃ VV, VV = V.drew := ⟨_, rfl⟩
                have HBVV : Hid (Below W0.heap.size W0 VV) := by rw [hVV]; exact HBV.out.drew
                have HSLV2 := Lib.hid (HSLV.out.drew)
                rw [← hVV] at HSLV2
                rw [← hVV]
                clear hVV
                have H1 : Hid (SL VV.drew (some ⟨g, 0, none⟩) bf ((L.take bf).map Int.ofNat)) := by unfold Hid; rw [List.map_take]; exact (HSLV2.out.take_ (by omega)).drew
                have H2 : Hid (SL VV (some ⟨g, bf, none⟩) 0 ((L.drop bf).map Int.ofNat)) := by rw [List.drop_of_length_le (by rw [HLN.out]; omega)]; exact ⟨rfl, fun q => absurd q (by omega)⟩
                have HN0 : Hid (OwnV VV.drew VV.heap.size 3 (.slice none 0 0) (([] : List Nat).map intV)) := World.ownsRow_nil _ _ _ _
                have HN1 : Hid (∀ o, OwnV (VV.drew.alloc o) VV.heap.size 3 (.slice none 0 0) (([] : List Nat).map intV)) := fun _ => World.ownsRow_nil _ _ _ _
                have HA0 : Hid (∀ o, Below VV.heap.size VV (VV.drew.alloc o)) := fun o => ((Below.refl VV.heap.size VV).drew).alloc (Nat.le_refl _) o
                have HB1 : Hid (([] : List Nat).length + bf ≤ 1000000) := by unfold Hid; simp; omega
                have HB2 : Hid (([] ++ L.take bf).length + 1 ≤ 1000000) := by unfold Hid; rw [List.nil_append, List.length_take]; omega
                have HB3 : Hid ((([] ++ L.take bf) ++ [j]).length + (0) ≤ 1000000) := by unfold Hid; rw [List.nil_append, List.length_append, List.length_take, HLN.out]; simp; omega
                have HL2 : Hid ((([] ++ L.take bf) ++ [j]) ++ L.drop bf = L2) := by unfold Hid; rw [List.nil_append]; exact hL2
                have hkn : (bf : Int) ≤ (bf : Int) := by omega
                have hlci : (bf : Int) ≤ (cp : Int) := by omega
                have hkc2 : (bf : Int) ≤ (cp : Int) := by omega
                clear hL2
                go_wp2_with fail
                go_region_law (first
                    | (refine step_append_intsV rfl (.const (.slice none 0 0)) (.tmp 44) rfl VV.heap.size (.slice none 0 0) [] (by kernel_rfl) HN0.out ⟨g, 0, none⟩ bf cp (L.take bf) (by kernel_rfl) H1.out HB1.out (Nat.le_refl _) ?_; intro v1 w1 hown1 hg1; have hB1 : Below VV.heap.size VV w1 := ((Below.refl VV.heap.size VV).drew).grown hg1 (Nat.le_refl _) (fun q hq => by cases hq); have K1 := Lib.hid (And.intro hown1 hB1); clear hown1 hg1 hB1)
                    | (refine step_append_intsV rfl (.tmp 45) (.tmp 47) rfl VV.heap.size v1 ([] ++ L.take bf) (by kernel_rfl) (K1.out.1.below ((Below.refl _ w1).alloc (Nat.le_refl _) _)) ⟨w1.heap.size, 0, none⟩ 1 1 [j] (by kernel_rfl) (sl_oneN w1 3 j) HB2.out (Nat.le_trans K1.out.2.size (by simp)) ?_; intro v2 w2 hown2 hg2; have hB2 : Below VV.heap.size VV w2 := (K1.out.2.alloc K1.out.2.size _).grown hg2 (Nat.le_trans K1.out.2.size (by simp)) (fun q hq => (K1.out.1.lt q hq).1); have K2 := Lib.hid (And.intro hown2 hB2); clear hown2 hg2 hB2)
                    | (refine step_append_intsV rfl (.const (.slice none 0 0)) (.tmp 44) rfl VV.heap.size (.slice none 0 0) [] (by kernel_rfl) (HN1.out _) ⟨g, 0, none⟩ bf cp (L.take bf) (by kernel_rfl) (H1.out.alloc _) HB1.out (by simp) ?_; intro v1 w1 hown1 hg1; have hGG := (sl_oneN VV.drew 3 j).below ((Below.refl _ _).grown hg1 (Nat.le_refl _) (fun q hq => by cases hq)); have hB1 : Below VV.heap.size VV w1 := (HA0.out _).grown hg1 (by simp) (fun q hq => by cases hq); have J1 := Lib.hid (And.intro hown1 (And.intro hB1 hGG)); clear hown1 hg1 hB1 hGG)
                    | (refine step_append_intsV rfl (.tmp 45) (.tmp 47) rfl VV.heap.size v1 ([] ++ L.take bf) (by kernel_rfl) J1.out.1 ⟨VV.heap.size, 0, none⟩ 1 1 [j] (by kernel_rfl) J1.out.2.2 HB2.out J1.out.2.1.size ?_; intro v2 w2 hown2 hg2; have hB2 : Below VV.heap.size VV w2 := J1.out.2.1.grown hg2 J1.out.2.1.size (fun q hq => (J1.out.1.lt q hq).1); have K2 := Lib.hid (And.intro hown2 hB2); clear hown2 hg2 hB2)
                    | (refine step_append_intsV rfl (.tmp 48) (.tmp 51) rfl VV.heap.size v2 (([] ++ L.take bf) ++ [j]) (by kernel_rfl) K2.out.1 ⟨g, bf, none⟩ 0 (cp - bf) (L.drop bf) (by kernel_rfl) (H2.out.below K2.out.2) HB3.out K2.out.2.size ?_; intro v3 w3 hown3 hg3; have hB3 : Below VV.heap.size VV w3 := K2.out.2.grown hg3 K2.out.2.size (fun q hq => (K2.out.1.lt q hq).1); have K3 := Lib.hid (And.intro hown3 hB3); clear hown3 hg3 hB3))
                all_goals
                  have HR : Hid (∀ v wx, OwnV wx VV.heap.size 3 v (L2.map intV) → Below VV.heap.size VV wx → AxRel D W0 v (.int .i64 ((j : Int) + 1)) wx) := fun v wx hownc hbc => ⟨j + 1, by omega, by rw [Int.natCast_add]; rfl, by rw [HSTEP.out]; exact own_base' hownc HBVV.out.size, HBVV.out.trans (hbc.mono HBVV.out.size)⟩
                  have HRR := Lib.hid (HR.out _ _ (by rw [← HL2.out]; exact K3.out.1) K3.out.2)
                  clear HR
                  go_wp2_with fail
                  go_roundw
                  case rel => exact HRR.out
                  case measure => simp [intOf]; omega
      · have hke : (l.kind != 1) = true := by rw [bne_iff_ne]; exact hk
        have HK := Lib.hid hk
        clear hk
        have HR : Hid (AxRel D W0 u3 (.int .i64 ((j : Int) + 1)) wr) := ⟨j + 1, by omega, by rw [Int.natCast_add]; rfl, by
          rw [axM, HLJ.out]
          dsimp only
          rw [if_neg HK.out]
          exact HOWN.out, HB.out⟩
        clear HST HBFL
        go_wp2_with fail
        go_roundw
        case rel => exact HR.out
        case measure => simp [intOf]; omega
    · obtain rfl : j = n := by omega
      go_wp2_with fail
      go_ret
      obtain ⟨Ax, cx, rfl, hs⟩ := HEND.out _ _ _ HOWN.out
      exact ⟨Ax, cx, rfl, hs, HB0.out.trans (HB.out.mono HB0.out.size)⟩

end Go.Proofs.YtbbpockkafbfmaaDoor
