/-
  Walks Flat Stage, one after the other.
-/
import Derived.Test.YtbbpockkafbfmaaDoorLeft
import Derived.Deep.LoopGhost
import Derived.Deep.RegionHeld3

/-
  The walk of the map's method walks: the faces.
-/
namespace Go.Proofs.YtbbpockkafbfmaaDoor
open Go.RowKit

theorem count_set_true {met : List Bool} {d : Nat} (h : met[d]? = some false) : (met.set d true).count false + 1 = met.count false := by
  induction met generalizing d with
  | nil => cases h
  | cons x xs ih =>
    cases d with
    | zero =>
      simp only [List.getElem?_cons_zero, Option.some.injEq] at h
      subst h
      simp
    | succ d =>
      simp only [List.getElem?_cons_succ] at h
      have := ih h
      simp only [List.set_cons_succ, List.count_cons]
      omega
def WInv (n : Nat) (met : List Bool) (ds : List Nat) : Prop := met.length = 2 * n ∧ ds.length + met.count false = 2 * n
theorem WInv.step {n : Nat} {met : List Bool} {ds : List Nat} (h : WInv n met ds) {d : Nat} (hm : met[d]? = some false) : WInv n (met.set d true) (ds ++ [d]) := by
  have := count_set_true hm
  exact ⟨by rw [List.length_set]; exact h.1, by have := h.2; simp; omega⟩
theorem WInv.start (n : Nat) : WInv n (List.replicate (2 * n) false) [] := ⟨by simp, by simp⟩

/-- A face as a piece of the darts that have been met. -/
def pieceV (gd cap : Nat) (p : Nat × Nat) : Value := .slice (some ⟨gd, p.1, none⟩) (p.2 - p.1) (cap - p.1)
/-- What walks leaves. -/
def WalksPost (D : DM) (w : World) (e : Ending) (w' : World) : Prop :=
  ∃ v gd, e = .returned v ∧ w.heap.size ≤ gd ∧ OwnV w' w.heap.size 28 v ((D.outer (2 * D.n)).all.map (pieceV gd (2 * D.n))) ∧
    OwnV w' w.heap.size 3 (.slice (some ⟨gd, 0, none⟩) (D.outer (2 * D.n)).ds.length (2 * D.n)) ((D.outer (2 * D.n)).ds.map intV) ∧ Below w.heap.size w w'
/-- The memory of the walk. -/
def WMem (n : Nat) (w : World) (gm gd : Nat) (met : List Bool) (ds : List Nat) (all : List (Nat × Nat)) (dv av : Value) (wr : World) : Prop :=
  WInv n met ds ∧ dv = .slice (some ⟨gd, 0, none⟩) ds.length (2 * n) ∧ OwnV wr w.heap.size 4 (.slice (some ⟨gm, 0, none⟩) (2 * n) (2 * n)) (met.map Value.bool) ∧
    OwnV wr w.heap.size 3 (.slice (some ⟨gd, 0, none⟩) ds.length (2 * n)) (ds.map intV) ∧ OwnV wr w.heap.size 28 av (all.map (pieceV gd (2 * n))) ∧ av.ownBlock ≠ some gd ∧ av.ownBlock ≠ some gm ∧ Below w.heap.size w wr
def WOut (D : DM) (n : Nat) (w : World) (gm gd g : Nat) (dv av iv : Value) (wr : World) : Prop :=
  ∃ q, g + q = 2 * n ∧ iv = .int .i64 (q : Int) ∧ (∀ p, p ∈ (D.outer q).all → p.1 < p.2 ∧ p.2 ≤ 2 * n) ∧ (D.outer q).all.length ≤ q ∧ WMem n w gm gd (D.outer q).met (D.outer q).ds (D.outer q).all dv av wr
def WIn (D : DM) (n : Nat) (w : World) (gm gd q start : Nat) (R : Bool × List Bool × List Nat) (all : List (Nat × Nat)) (av : Value) (g : Nat) (dv tv : Value) (wr : World) : Prop :=
  ∃ (d : Nat) (met : List Bool) (ds : List Nat), tv = .int .i64 (d : Int) ∧ d < 2 * n ∧ D.inner q start g d met ds = R ∧ met.count false < g ∧ start ≤ ds.length ∧ WMem n w gm gd met ds all dv av wr

theorem WMem.below {n : Nat} {w wr w' : World} {gm gd : Nat} {met : List Bool} {ds : List Nat} {all : List (Nat × Nat)} {dv av : Value} (h : WMem n w gm gd met ds all dv av wr) (hb : Below wr.heap.size wr w') : WMem n w gm gd met ds all dv av w' := by
  obtain ⟨h1, h2, h3, h4, h5, h6, h7, h8⟩ := h
  exact ⟨h1, h2, h3.below hb, h4.below hb, h5.below hb, h6, h7, h8.trans (hb.mono h8.size)⟩
theorem WMem.push {n : Nat} {w wr w3 : World} {gm gd : Nat} {met : List Bool} {ds : List Nat} {all : List (Nat × Nat)} {dv av : Value} (h : WMem n w gm gd met ds all dv av wr) (hm : gm ≠ gd) {d : Nat} (hd : d < 2 * n) (hmv : met[d]? = some false) (o : Obj)
    (hg : ((wr.setCell ⟨gm, d, none⟩ (.bool true)).alloc o).grownBy w3 (some gd)) (ho : w3.ownsRow w.heap.size 3 1 (.slice (some ⟨gd, 0, none⟩) (ds.length + 1) (2 * n)) (ds.length + 1) (ds.map intV ++ [.int .i64 (d : Int)])) :
    WMem n w gm gd (met.set d true) (ds ++ [d]) all (.slice (some ⟨gd, 0, none⟩) (ds.length + 1) (2 * n)) av w3 := by
  obtain ⟨h1, h2, h3, h4, h5, h6, h7, h8⟩ := h
  have hgb := (h3.lt gm rfl).1
  have hgs := (h3.lt gm rfl).2
  have hdb := (h4.lt gd rfl).1
  obtain ⟨wa, hwa⟩ : ∃ wa, wa = wr.setCell ⟨gm, d, none⟩ (.bool true) := ⟨_, rfl⟩
  rw [← hwa] at hg
  have hsa : wa.heap.size = wr.heap.size := by rw [hwa]; simp
  have ka : ∀ q, q ≠ gm → wa.heap[q]? = wr.heap[q]? := fun q hq => by rw [hwa]; exact Below.heap_setCell _ _ _ q hq
  have hba : Below wa.heap.size wa (wa.alloc o) := (Below.refl _ _).alloc (Nat.le_refl _) _
  have k3 : ∀ q, q < wa.heap.size → q ≠ gd → w3.heap[q]? = wa.heap[q]? := fun q h0 h1 => (hg.block q (by have := hba.size; omega) (by intro e; injection e with e; exact h1 e)).trans (hba.block q h0)
  have b1 : Below w.heap.size w wa := by rw [hwa]; exact h8.setCell (p := ⟨gm, d, none⟩) hgb _
  have b2 : Below w.heap.size w (wa.alloc o) := b1.alloc (by have := b1.size; omega) o
  refine ⟨h1.step hmv, by rw [List.length_append]; rfl, ?_, ?_, ?_, h6, h7, b2.grown hg b2.size (fun j hj => by cases hj; exact hdb)⟩
  · have e1 := h3.set (k := d) hd (.bool true)
    rw [← hwa, ← List.map_set] at e1
    exact e1.kept (k3 gm (by omega) hm)
  · unfold OwnV
    have e : (ds.map intV ++ [d].map intV).length = ds.length + 1 := by simp
    rw [List.map_append, List.length_append, e]
    exact ho
  · rcases hav : av.ownBlock with _ | g
    · have e1 : wa.ownsRow w.heap.size 28 1 av (all.map (pieceV gd (2 * n))).length (all.map (pieceV gd (2 * n))) := by
        refine ⟨h5.1, ?_⟩
        rcases h5.2 with hn | ⟨g, cap, cur, hv, _⟩
        · exact .inl hn
        · rw [hv] at hav; simp [Value.ownBlock] at hav
      refine ⟨e1.1, ?_⟩
      rcases e1.2 with hn | ⟨g, cap, cur, hv, _⟩
      · exact .inl hn
      · rw [hv] at hav; simp [Value.ownBlock] at hav
    · have hgl := h5.lt g hav
      have hk : w3.heap[g]? = wr.heap[g]? := (k3 g (by omega) (by intro e; subst e; exact h6 hav)).trans (ka g (by intro e; subst e; exact h7 hav))
      refine ⟨h5.1, ?_⟩
      rcases h5.2 with hn | ⟨g', cap, cur, hv, hb, hh, r⟩
      · exact .inl hn
      · have e : g' = g := by rw [hv] at hav; simpa [Value.ownBlock] using hav
        subst e
        exact .inr ⟨g', cap, cur, hv, hb, hk.trans hh, r⟩
theorem WMem.face {n : Nat} {w wr w5 : World} {gm gd : Nat} {met : List Bool} {ds : List Nat} {all : List (Nat × Nat)} {dv av : Value} (h : WMem n w gm gd met ds all dv av wr) (dl : Nat) (o : Obj) {v' : Value}
    (hg : (wr.alloc o).grownBy w5 av.ownBlock) (ho : w5.ownsRow w.heap.size 28 1 v' (all.length + 1) (all.map (pieceV gd (2 * n)) ++ [pieceV gd (2 * n) (dl, ds.length)])) (hl : v'.ownBlock = av.ownBlock ∨ v'.ownBlock = some (wr.alloc o).heap.size) :
    WMem n w gm gd met ds (all ++ [(dl, ds.length)]) dv v' w5 := by
  obtain ⟨h1, h2, h3, h4, h5, h6, h7, h8⟩ := h
  have hgs := (h3.lt gm rfl).2
  have hds := (h4.lt gd rfl).2
  have hba : Below wr.heap.size wr (wr.alloc o) := (Below.refl _ _).alloc (Nat.le_refl _) _
  have hsz := hba.size
  have k3 : ∀ q, q < wr.heap.size → some q ≠ av.ownBlock → w5.heap[q]? = wr.heap[q]? := fun q h0 h1 => (hg.block q (by omega) h1).trans (hba.block q h0)
  have b2 : Below w.heap.size w (wr.alloc o) := h8.alloc (by have := h8.size; omega) o
  refine ⟨h1, h2, h3.kept (k3 gm hgs (fun e => h7 e.symm)), h4.kept (k3 gd hds (fun e => h6 e.symm)), ?_, ?_, ?_, b2.grown hg b2.size (fun j hj => (h5.lt j hj).1)⟩
  · unfold OwnV
    rw [List.map_append, List.length_append, List.length_map]
    exact ho
  · rcases hl with e | e
    · rw [e]; exact h6
    · rw [e]; intro c; injection c with c; omega
  · rcases hl with e | e
    · rw [e]; exact h7
    · rw [e]; intro c; injection c with c; omega

theorem wpList_make_intsCap {w : World} {ops : Array Oper} {rest : List Oper} {o : Oper} {a : Act} {Q : Exit → Act → World → Prop} (hgd : o.guard = none) (l c : Operand) (ho : o.op = Op.makeSlice 28 l c)
    (n : Nat) (m : Int) (hm : m = n) (hl : a.eval l = .int .i64 0) (hc : a.eval c = .int .i64 m) (hn : n ≤ 100000) (B : Nat) (hB : B ≤ w.heap.size)
    (hK : ∀ w', OwnV w' B 3 (.slice (some ⟨w.heap.size, 0, none⟩) 0 n) [] → Below w.heap.size w w' → wpList Tryd.prog ops Q rest (a.put o.dst (.slice (some ⟨w.heap.size, 0, none⟩) 0 n)) w') :
    wpList Tryd.prog ops Q (o :: rest) a w := by
  obtain ⟨i0, hi, hz0, hz1, hz2⟩ := info_parts infoInt'
  refine wpList_make_own w hgd l c 28 ho B 3 i0 (.int .i64 0) 1 Tryd.underlying28 hi hz0 hz1 .i64 .i64 m n hl hc hm (by rw [hz2]; omega) (by unfold maxLen; omega) hB ?_
  intro w' h1 h2
  exact hK w' h1 ((Below.refl _ _).grown h2 (Nat.le_refl _) (fun k hk => by cases hk))

theorem infoSlice : (Tryd.prog.info? 28).map (fun i => (i.zero, i.size, i.bytes)) = some (some (.slice none 0 0), 1, 24) := by kernel_rfl
theorem getD_of_some {l : List Bool} {i : Nat} {x : Bool} (h : l[i]? = some x) : l.getD i false = x := by rw [List.getD_eq_getElem?_getD, h]; rfl

set_option maxHeartbeats 4000000 in
set_option maxRecDepth 100000 in
theorem walks_calls {D : DM} (k : D.ok) {w : World} {P : Nat} {f : Int} {A Aa Ax As Ao : Option Addr} {c ca cx cs co : Nat} (h : DMem D w P f A Aa Ax As Ao c ca cx cs co) :
    Calls Tryd.prog 44 #[.pointer (some ⟨P, 0, none⟩)] w (WalksPost D w) := by
  have HK := Lib.hid k
  have HM := Lib.hid h
  have hn := k.n1
  obtain ⟨n, hnn⟩ : ∃ n, D.n = n := ⟨_, rfl⟩
  obtain ⟨hP, p0, p1, p2, p3, p4, p5⟩ := h.1
  rw [hnn] at hn p1 p2 p4 p5
  have HNN := Lib.hid hnn
  have hmul : IntKind.i64.wrap (2 * (n : Int)) = 2 * n := wrapI (by omega) (by omega)
  clear hnn k h
  go_enter Tryd.func44, Tryd.ntmps44
  go_wp2_with fail
  go_step3
  go_wp2_with (first
    | (at_make; refine wpList_make_boolsV rfl _ _ rfl (2 * n) (2 * (n : Int)) (by omega) rfl rfl (by omega) ?_; intro w1 hown1 hb1; have HO1 := Lib.hid hown1; have HB1 := Lib.hid hb1; clear hown1 hb1)
    | (at_make; refine wpList_make_intsCap rfl _ _ rfl (2 * n) (2 * (n : Int)) (by omega) rfl rfl (by omega) w.heap.size (HB1.out.size) ?_; intro w2 hown2 hb2; have HO2 := Lib.hid hown2; have HB2 := Lib.hid hb2; clear hown2 hb2))
  go_step3
  go_wp2_with fail
  obtain ⟨gm, hgm⟩ : ∃ gm, gm = w.heap.size := ⟨_, rfl⟩
  obtain ⟨gd, hgd⟩ : ∃ gd, gd = w1.heap.size := ⟨_, rfl⟩
  have l1 : w.heap.size < w1.heap.size := (HO1.out.lt _ rfl).2
  have HGG : Hid (w.heap.size ≤ gm ∧ gm < gd) := ⟨by omega, by omega⟩
  have HST : Hid (WOut D n w gm gd (2 * n) (.slice (some ⟨gd, 0, none⟩) 0 (2 * n)) (.slice none 0 0) (.int .i64 0) w2) := by
    refine ⟨0, rfl, rfl, fun p hp => by simp [DM.outer] at hp, by simp [DM.outer], ?_, rfl, ?_, ?_, ?_, by simp [Value.ownBlock], by simp [Value.ownBlock], HB1.out.trans (HB2.out.mono (by omega))⟩
    · have h1 := WInv.start n
      unfold DM.outer
      rw [HNN.out]
      exact h1
    · have h1 := HO1.out.kept (HB2.out.block w.heap.size l1)
      unfold DM.outer
      rw [HNN.out, List.map_replicate, hgm]
      exact h1
    · have h1 := HO2.out
      rw [← hgd] at h1
      exact h1
    · exact World.ownsRow_nil _ _ _ _
  rw [← hgd, ← hgm]
  clear HO1 HB1 HO2 HB2 hgd hgm l1 p0 p1 p2 p3 p4 p5 hP
  go_loopg [4, 5, 22] (2 * n) (fun g dv av iv wr => WOut D n w gm gd g dv av iv wr)
  case atStart => exact HST.out
  case round =>
    obtain ⟨q, hq, rfl, hall, hal, hmem⟩ := hrel
    obtain ⟨s, hs⟩ : ∃ s, D.outer q = s := ⟨_, rfl⟩
    rw [hs] at hall hal hmem
    obtain ⟨met0, ds0, all0⟩ := s
    dsimp only at hall hal hmem
    have HMEM := Lib.hid hmem
    obtain ⟨hinv, rfl, hmo, hdo, hao, hb1, hb2, hbel⟩ := hmem
    have HS := Lib.hid hs
    have HINV := Lib.hid hinv
    have HALL := Lib.hid hall
    have HAL := Lib.hid hal
    have HMO := Lib.hid hmo
    have HDO := Lib.hid hdo
    have HAO := Lib.hid hao
    have HBN := Lib.hid (And.intro hb1 hb2)
    have HBE := Lib.hid hbel
    have HQ := Lib.hid hq
    obtain ⟨dl, hdl⟩ : ∃ dl, ds0.length = dl := ⟨_, rfl⟩
    have HDL := Lib.hid hdl
    rw [hdl]
    clear hall hal hinv hmo hdo hao hb1 hb2 hbel hq hdl hs
    cases gk with
    | zero =>
      have hqn : q = 2 * n := by have := HQ.out; omega
      have hge : (2 * (n : Int)) ≤ (q : Int) := by omega
      have HQN := Lib.hid hqn
      clear hqn
      go_wp2_with fail
      try rw [Exit.noGoto_ret]
      go_ret
      have e := HQN.out
      subst e
      refine ⟨u5, gd, rfl, by have := HGG.out; omega, ?_, ?_, HBE.out⟩
      · rw [HNN.out, HS.out]
        exact HAO.out
      · rw [HNN.out, HS.out]
        exact HDO.out
    | succ g =>
      have hqn : q < 2 * n := by have := HQ.out; omega
      have hqi : (q : Int) < 2 * (n : Int) := by omega
      obtain ⟨R, hR⟩ : ∃ R, D.inner q dl (2 * n + 1) q met0 ds0 = R := ⟨_, rfl⟩
      have HNEXT : Hid (∀ b m2 d2, R = (b, m2, d2) → D.outer (q + 1) = ⟨m2, d2, if b then all0 ++ [(dl, d2.length)] else all0⟩) := by
        intro b m2 d2 h
        rw [DM.outer, HS.out, HNN.out]
        dsimp only
        rw [HDL.out, hR, h]
      have HR0 := Lib.hid hR
      clear hR
      have HCB : ∀ {m2 : List Bool} {d2 : List Nat}, WInv n m2 d2 → d2.length ≤ 2 * n := fun h => by have := h.2; omega
      have HCB' := Lib.hid (HCB HINV.out)
      clear HCB
      go_wp2_with fail
      go_loopg [4, 8] (2 * n + 1) (fun g2 dv tv wr => WIn D n w gm gd q dl R all0 u5 g2 dv tv wr)
      case atStart => exact ⟨q, met0, ds0, rfl, hqn, HR0.out, by have := HINV.out.2; omega, by rw [HDL.out]; omega, by have h := HMEM.out; rw [HDL.out] at h; exact h⟩
      case round =>
        obtain ⟨d, met, ds, rfl, hd, hR, hcnt, hst, hmem⟩ := hrel
        have HMEM2 := Lib.hid hmem
        obtain ⟨hinv, rfl, hmo, hdo, hao, hb1, hb2, hbel⟩ := hmem
        have HR := Lib.hid hR
        have HINV2 := Lib.hid hinv
        have HMO2 := Lib.hid hmo
        have HDO2 := Lib.hid hdo
        have HAO2 := Lib.hid hao
        have HBN2 := Lib.hid (And.intro hb1 hb2)
        have HBE2 := Lib.hid hbel
        have hdsl := hinv.2
        obtain ⟨el, hel⟩ : ∃ el, ds.length = el := ⟨_, rfl⟩
        have HEL := Lib.hid hel
        rw [hel] at hst hdsl ⊢
        clear hinv hmo hdo hao hb1 hb2 hbel hel hR
        cases gk with
        | zero => omega
        | succ g2 =>
          have hdi : (d : Int) < 2 * (n : Int) := by omega
          obtain ⟨mv0, hmv0, hmc, hmf, _, hms⟩ := HMO2.out.cell (k := d) hd
          obtain ⟨mv, hmv, rfl⟩ : ∃ mv, met[d]? = some mv ∧ mv0 = .bool mv := by
            rw [List.getElem?_map] at hmv0
            cases hh : met[d]? with
            | none => rw [hh] at hmv0; cases hmv0
            | some x => rw [hh] at hmv0; injection hmv0 with hmv0; exact ⟨x, rfl, hmv0.symm⟩
          have HMV := Lib.hid hmv
          have HIF : Hid (D.inner q dl (g2 + 1) d met ds = if el = dl ∨ d ≠ q then (if mv then (false, met, ds) else D.inner q dl g2 (D.left d) (met.set d true) (ds ++ [d])) else (true, met, ds)) := by
            unfold Hid
            rw [DM.inner, HEL.out, getD_of_some HMV.out]
          clear hmv hmv0
          rcases (show (el = dl) ∨ (¬ el = dl ∧ ¬ d = q) ∨ (¬ el = dl ∧ d = q) by omega) with hc | ⟨hc, hc2⟩ | ⟨hc, hc2⟩
          · subst hc
            cases mv with
            | true =>
              have HRR : Hid (R = (false, met, ds)) := HR.out.symm.trans (HIF.out.trans (by rw [if_pos (.inl rfl)]; rfl))
              have HN : Hid (D.outer (q + 1) = ⟨met, ds, all0⟩) := HNEXT.out _ _ _ HRR.out
              go_wp2_with fail
              go_roundg g
              case measure => omega
              case rel =>
                have hm := HMEM2.out
                rw [HEL.out] at hm
                have hn := HN.out
                exact ⟨q + 1, by have := HQ.out; omega, by rw [Int.natCast_add]; rfl, by rw [hn]; exact HALL.out, by rw [hn]; have := HAL.out; dsimp only; omega, by rw [hn]; exact hm⟩
            | false =>
              have hst2 := (HINV2.out.step HMV.out).2
              rw [List.length_append, HEL.out] at hst2
              have hel2 : el + 1 ≤ 2 * n := by have : ([d] : List Nat).length = 1 := rfl; omega
              have HRR : Hid (D.inner q el g2 (D.left d) (met.set d true) (ds ++ [d]) = R) := by
                unfold Hid
                rw [← HR.out, HIF.out, if_pos (.inl rfl)]
                rfl
              have hgs := (HMO2.out.lt gm rfl)
              have hds := (HDO2.out.lt gd rfl)
              have hgg := HGG.out.2
              have HSZ : Hid ((wr.setCell ⟨gm, d, none⟩ (.bool true)).heap.size = wr.heap.size) := by unfold Hid; simp
              have HDSW : Hid (∀ o, ((wr.setCell ⟨gm, d, none⟩ (.bool true)).alloc o).ownsRow w.heap.size 3 1 (.slice (some ⟨gd, 0, none⟩) el (2 * n)) el (ds.map intV)) := by
                intro o
                have h1 := (HDO2.out.kept (w' := wr.setCell ⟨gm, d, none⟩ (.bool true)) (Below.heap_setCell _ _ _ gd (by show gd ≠ gm; omega))).below ((Below.refl _ _).alloc (Nat.le_refl _) o)
                unfold OwnV at h1
                rw [List.length_map, HEL.out] at h1
                exact h1
              have HCELL : Hid (∀ T, ∀ j u, [Value.int .i64 (d : Int)][j]? = some u → ((wr.setCell ⟨gm, d, none⟩ (.bool true)).alloc (.cells #[.int .i64 (d : Int)] T)).cell? ((⟨wr.heap.size, 0, none⟩ : Addr).add j) = some u) := by
                intro T j u hju
                have h1 := cell_one_new (wr.setCell ⟨gm, d, none⟩ (.bool true)) (.int .i64 (d : Int)) T j u hju
                rw [HSZ.out] at h1
                exact h1
              have HB3 : Hid (∀ o w3, ((wr.setCell ⟨gm, d, none⟩ (.bool true)).alloc o).grownBy w3 (some gd) → w3.ownsRow w.heap.size 3 1 (.slice (some ⟨gd, 0, none⟩) (el + 1) (2 * n)) (el + 1) (ds.map intV ++ [.int .i64 (d : Int)]) →
                  WMem n w gm gd (met.set d true) (ds ++ [d]) all0 (.slice (some ⟨gd, 0, none⟩) (el + 1) (2 * n)) u5 w3) := by
                intro o w3 hg3 ho3
                rw [← HEL.out] at ho3
                have h1 := HMEM2.out.push (by omega) hd HMV.out o hg3 ho3
                rw [HEL.out] at h1
                exact h1
              have HLEFT : Hid (∀ W, Below w.heap.size w W → Calls Tryd.prog 83 #[.pointer (some ⟨P, 0, none⟩), .int .i64 (d : Int)] W fun e w' => e = .returned (.int .i64 (D.left d)) ∧ Below W.heap.size W w') :=
                fun W hb => left_calls HK.out (HM.out.below hb) (by rw [HNN.out]; exact hd)
              obtain ⟨i0, hi, hz0, hz1, hz2⟩ := info_parts infoInt'
              have hne : ¬ gm = wr.heap.size := by omega
              clear hst2 hgs hds hz0 hz2
              go_wp2_with (first
                | (at_builtin; refine wpList_append_fits _ rfl _ _ 28 rfl w.heap.size 3 i0 1 Tryd.underlying28 hi hz1 gd el (2 * n) (ds.map intV) rfl (HDSW.out _) ⟨wr.heap.size, 0, none⟩ 1 1 [.int .i64 (d : Int)] rfl rfl (HCELL.out _) (by intro u hu; rw [List.mem_singleton] at hu; subst hu; rfl) (by omega) ?_; intro w3 hown3 hgr3; have H3 := Lib.hid (HB3.out _ _ hgr3 hown3); clear hown3 hgr3)
                | (go_at_call 83; refine (HLEFT.out _ H3.out.2.2.2.2.2.2.2).mono ?_; rintro e w4 ⟨rfl, hb4⟩))
              go_roundg g2
              case measure => omega
              case rel =>
                have hl := DM.left_lt HK.out (d := d) (by rw [HNN.out]; exact hd)
                rw [HNN.out] at hl
                have hcs := count_set_true HMV.out
                exact ⟨D.left d, met.set d true, ds ++ [d], rfl, hl, HRR.out, by omega, by rw [List.length_append, HEL.out]; omega, H3.out.below hb4⟩
          · have hc3 : ((el : Int) == (dl : Int)) = false := by rw [beq_eq_false_iff_ne]; omega
            have hc4 : ¬ (d : Int) = (q : Int) := by omega
            cases mv with
            | true =>
              have HRR : Hid (R = (false, met, ds)) := HR.out.symm.trans (HIF.out.trans (by rw [if_pos (.inr hc2)]; rfl))
              have HN : Hid (D.outer (q + 1) = ⟨met, ds, all0⟩) := HNEXT.out _ _ _ HRR.out
              go_wp2_with fail
              go_roundg g
              case measure => omega
              case rel =>
                have hm := HMEM2.out
                rw [HEL.out] at hm
                have hn := HN.out
                exact ⟨q + 1, by have := HQ.out; omega, by rw [Int.natCast_add]; rfl, by rw [hn]; exact HALL.out, by rw [hn]; have := HAL.out; dsimp only; omega, by rw [hn]; exact hm⟩
            | false =>
              have hst2 := (HINV2.out.step HMV.out).2
              rw [List.length_append, HEL.out] at hst2
              have hel2 : el + 1 ≤ 2 * n := by have : ([d] : List Nat).length = 1 := rfl; omega
              have HRR : Hid (D.inner q dl g2 (D.left d) (met.set d true) (ds ++ [d]) = R) := by
                unfold Hid
                rw [← HR.out, HIF.out, if_pos (.inr hc2)]
                rfl
              have hgs := (HMO2.out.lt gm rfl)
              have hds := (HDO2.out.lt gd rfl)
              have hgg := HGG.out.2
              have HSZ : Hid ((wr.setCell ⟨gm, d, none⟩ (.bool true)).heap.size = wr.heap.size) := by unfold Hid; simp
              have HDSW : Hid (∀ o, ((wr.setCell ⟨gm, d, none⟩ (.bool true)).alloc o).ownsRow w.heap.size 3 1 (.slice (some ⟨gd, 0, none⟩) el (2 * n)) el (ds.map intV)) := by
                intro o
                have h1 := (HDO2.out.kept (w' := wr.setCell ⟨gm, d, none⟩ (.bool true)) (Below.heap_setCell _ _ _ gd (by show gd ≠ gm; omega))).below ((Below.refl _ _).alloc (Nat.le_refl _) o)
                unfold OwnV at h1
                rw [List.length_map, HEL.out] at h1
                exact h1
              have HCELL : Hid (∀ T, ∀ j u, [Value.int .i64 (d : Int)][j]? = some u → ((wr.setCell ⟨gm, d, none⟩ (.bool true)).alloc (.cells #[.int .i64 (d : Int)] T)).cell? ((⟨wr.heap.size, 0, none⟩ : Addr).add j) = some u) := by
                intro T j u hju
                have h1 := cell_one_new (wr.setCell ⟨gm, d, none⟩ (.bool true)) (.int .i64 (d : Int)) T j u hju
                rw [HSZ.out] at h1
                exact h1
              have HB3 : Hid (∀ o w3, ((wr.setCell ⟨gm, d, none⟩ (.bool true)).alloc o).grownBy w3 (some gd) → w3.ownsRow w.heap.size 3 1 (.slice (some ⟨gd, 0, none⟩) (el + 1) (2 * n)) (el + 1) (ds.map intV ++ [.int .i64 (d : Int)]) →
                  WMem n w gm gd (met.set d true) (ds ++ [d]) all0 (.slice (some ⟨gd, 0, none⟩) (el + 1) (2 * n)) u5 w3) := by
                intro o w3 hg3 ho3
                rw [← HEL.out] at ho3
                have h1 := HMEM2.out.push (by omega) hd HMV.out o hg3 ho3
                rw [HEL.out] at h1
                exact h1
              have HLEFT : Hid (∀ W, Below w.heap.size w W → Calls Tryd.prog 83 #[.pointer (some ⟨P, 0, none⟩), .int .i64 (d : Int)] W fun e w' => e = .returned (.int .i64 (D.left d)) ∧ Below W.heap.size W w') :=
                fun W hb => left_calls HK.out (HM.out.below hb) (by rw [HNN.out]; exact hd)
              obtain ⟨i0, hi, hz0, hz1, hz2⟩ := info_parts infoInt'
              have hne : ¬ gm = wr.heap.size := by omega
              clear hst2 hgs hds hz0 hz2
              go_wp2_with (first
                | (at_builtin; refine wpList_append_fits _ rfl _ _ 28 rfl w.heap.size 3 i0 1 Tryd.underlying28 hi hz1 gd el (2 * n) (ds.map intV) rfl (HDSW.out _) ⟨wr.heap.size, 0, none⟩ 1 1 [.int .i64 (d : Int)] rfl rfl (HCELL.out _) (by intro u hu; rw [List.mem_singleton] at hu; subst hu; rfl) (by omega) ?_; intro w3 hown3 hgr3; have H3 := Lib.hid (HB3.out _ _ hgr3 hown3); clear hown3 hgr3)
                | (go_at_call 83; refine (HLEFT.out _ H3.out.2.2.2.2.2.2.2).mono ?_; rintro e w4 ⟨rfl, hb4⟩))
              go_roundg g2
              case measure => omega
              case rel =>
                have hl := DM.left_lt HK.out (d := d) (by rw [HNN.out]; exact hd)
                rw [HNN.out] at hl
                have hcs := count_set_true HMV.out
                exact ⟨D.left d, met.set d true, ds ++ [d], rfl, hl, HRR.out, by omega, by rw [List.length_append, HEL.out]; omega, H3.out.below hb4⟩
          · have hdi2 : (dl : Int) < (el : Int) := by omega
            have hel2 : el ≤ 2 * n := by omega
            have hd0 : (0 : Int) ≤ dl := by omega
            have hc3 : ((el : Int) == (dl : Int)) = false := by rw [beq_eq_false_iff_ne]; omega
            have HRR : Hid (R = (true, met, ds)) := HR.out.symm.trans (HIF.out.trans (by rw [if_neg (by omega)]))
            have HN : Hid (D.outer (q + 1) = ⟨met, ds, all0 ++ [(dl, ds.length)]⟩) := HNEXT.out _ _ _ HRR.out
            subst hc2
            have HAOW : Hid (∀ o, (wr.alloc o).ownsRow w.heap.size 28 1 u5 all0.length (all0.map (pieceV gd (2 * n)))) := by
              intro o
              have h1 := HAO2.out.below ((Below.refl _ _).alloc (Nat.le_refl _) o)
              unfold OwnV at h1
              rw [List.length_map] at h1
              exact h1
            have HFACE : Hid (∀ o v' w5, (wr.alloc o).grownBy w5 u5.ownBlock → w5.ownsRow w.heap.size 28 1 v' (all0.length + 1) (all0.map (pieceV gd (2 * n)) ++ [.slice (some ⟨gd, dl, none⟩) (el - dl) (2 * n - dl)]) → (v'.ownBlock = u5.ownBlock ∨ v'.ownBlock = some (wr.alloc o).heap.size) →
                WMem n w gm gd met ds (all0 ++ [(dl, ds.length)]) (.slice (some ⟨gd, 0, none⟩) el (2 * n)) v' w5) := by
              intro o v' w5 h1 h2 h3
              rw [← HEL.out] at h2
              have h4 := HMEM2.out.face dl o h1 h2 h3
              rw [HEL.out] at h4
              rw [HEL.out]
              exact h4
            obtain ⟨i0, hi, hz0, hz1, hz2⟩ := info_parts infoSlice
            have HALN : Hid (all0.length ≤ 2000) := by have := HAL.out; unfold Hid; omega
            have haln := HALN.out
            have hbw : w.heap.size ≤ wr.heap.size := HBE2.out.size
            go_wp2_with (first
              | (at_builtin; refine wpList_append_own_at _ rfl _ _ 26 rfl w.heap.size 28 i0 (.slice none 0 0) 1 24 Tryd.underlying26 hi hz0 hz1 hz2 rfl (by decide) u5 all0.length _ rfl (HAOW.out _) ⟨wr.heap.size, 0, none⟩ 1 1 [.slice (some ⟨gd, dl, none⟩) (el - dl) (2 * n - dl)] rfl rfl (cell_one_new _ _ _) (by intro u hu; rw [List.mem_singleton] at hu; subst hu; rfl) (by unfold maxLen; omega) (by omega) (by simp; omega) ?_; intro v' w5 hown5 hgr5 hnil hloc; have H5 := Lib.hid (HFACE.out _ _ _ hgr5 hown5 hloc); clear hown5 hgr5 hnil hloc))
            go_roundg g
            case measure => omega
            case rel =>
              have hn := HN.out
              exact ⟨d + 1, by have := HQ.out; omega, by rw [Int.natCast_add]; rfl, by
                rw [hn]
                intro p hp
                rcases List.mem_append.1 hp with hp | hp
                · exact HALL.out p hp
                · rw [List.mem_singleton] at hp; subst hp; dsimp only; rw [HEL.out]; omega, by rw [hn]; have := HAL.out; simp; omega, by rw [hn]; exact H5.out⟩

end Go.Proofs.YtbbpockkafbfmaaDoor

/-
  The walks of the map's methods short, fingered and flat.
-/
namespace Go.Proofs.YtbbpockkafbfmaaDoor
open Go.RowKit

theorem OwnV.form {w : World} {B : Nat} {T : TypeId} {v : Value} {vs : List Value} (h : OwnV w B T v vs) : ∃ A c, v = .slice A vs.length c := by
  rcases h.2 with ⟨hv, h0⟩ | ⟨g, cap, cur, hv, _⟩
  · exact ⟨none, 0, by rw [hv, h0]⟩
  · exact ⟨_, _, hv⟩

def FlatS (P : Nat) (f : Int) (vL vX : Value) (w w' : World) : Prop :=
  w'.cell? ⟨P, 0, none⟩ = some (.int .i64 f) ∧ w'.cell? ⟨P, 1, none⟩ = some vL ∧ w'.cell? ⟨P, 3, none⟩ = some vX ∧ Below w.heap.size w w'
theorem FlatS.of {P : Nat} {f : Int} {vL vX : Value} {w w' : World} (hP : P < w.heap.size) (h0 : w.cell? ⟨P, 0, none⟩ = some (.int .i64 f)) (h1 : w.cell? ⟨P, 1, none⟩ = some vL) (h3 : w.cell? ⟨P, 3, none⟩ = some vX) (hb : Below w.heap.size w w') : FlatS P f vL vX w w' := by
  have e : ∀ o, w'.cell? ⟨P, o, none⟩ = w.cell? ⟨P, o, none⟩ := fun o => hb.cell (p := ⟨P, o, none⟩) hP
  exact ⟨(e _).trans h0, (e _).trans h1, (e _).trans h3, hb⟩

theorem FlatS.last {P : Nat} {f : Int} {vL vX : Value} {w w' : World} (h : FlatS P f vL vX w w') : Below w.heap.size w w' := h.2.2.2

set_option maxHeartbeats 2000000 in
set_option maxRecDepth 100000 in
theorem flat_calls {D : DM} (k : D.ok) {w : World} {P : Nat} {f : Int} {A Aa Ax As Ao : Option Addr} {c ca cx cs co : Nat} (h : DMem D w P f A Aa Ax As Ao c ca cx cs co) :
    Calls Tryd.prog 82 #[.pointer (some ⟨P, 0, none⟩)] w fun e w' => e = .returned (.bool (decide (((D.outer (2 * D.n)).all.length : Int) = (D.m : Int) + cntK 2 D.ls / 2 + 2))) ∧ Below w.heap.size w w' := by
  have hn := k.n1
  have hn0 := k.n0
  have hm := k.m1
  obtain ⟨N, hN⟩ : ∃ N, (D.outer (2 * D.n)).all.length = N := ⟨_, rfl⟩
  have HW : Hid (∀ W, Below w.heap.size w W → Calls Tryd.prog 44 #[.pointer (some ⟨P, 0, none⟩)] W fun e w' => (∃ A' c', e = .returned (.slice A' N c')) ∧ Below W.heap.size W w') := by
    intro W hb
    refine (walks_calls k (h.below hb)).mono ?_
    rintro e w' ⟨v, gd, rfl, _, hown, _, hb'⟩
    obtain ⟨A', c', rfl⟩ := hown.form
    exact ⟨⟨A', c', by rw [List.length_map, hN]⟩, hb'⟩
  have HC : Hid (∀ W, Below w.heap.size w W → Calls Tryd.prog 18 #[.agg #[.int .i64 f, .slice A D.n c]] W fun e w' => e = .returned (.int .i64 (cntK 2 D.ls / 2)) ∧ Below W.heap.size W w') :=
    fun W hb => crossings_calls f A D.n c D.ls W (h.2.1.below hb) (by omega)
  have hxb : 0 ≤ cntK 2 D.ls / 2 ∧ cntK 2 D.ls / 2 ≤ 1000 := by
    have h0 := cntK_nonneg 2 D.ls
    have h1 := cntK_take_le 2 D.ls D.n
    rw [List.take_of_length_le (by rw [k.ls]; omega)] at h1
    omega
  obtain ⟨hx0, hx1⟩ := hxb
  obtain ⟨hP, p0, p1, p2, p3, p4, p5⟩ := h.1
  have HP := Lib.hid (⟨hP, p0, p1, p3⟩ : P < w.heap.size ∧ w.cell? ⟨P, 0, none⟩ = some (.int .i64 f) ∧ w.cell? ⟨P, 1, none⟩ = some (.slice A D.n c) ∧ w.cell? ⟨P, 3, none⟩ = some (.slice Ax D.m cx))
  obtain ⟨n, hnn⟩ : ∃ n, D.n = n := ⟨_, rfl⟩
  obtain ⟨m, hmm⟩ : ∃ m, D.m = m := ⟨_, rfl⟩
  obtain ⟨xc, hxc⟩ : ∃ xc, cntK 2 D.ls / 2 = xc := ⟨_, rfl⟩
  rw [hN, hmm, hxc]
  rw [hxc] at hx0 hx1 HC
  rw [hnn] at hn hn0 HC HP
  rw [hmm] at hm HP
  have hnz : ((n : Int) == 0) = false := by rw [beq_eq_false_iff_ne]; omega
  have hs1 : IntKind.i64.wrap ((m : Int) + xc) = (m : Int) + xc := wrapI (by omega) (by omega)
  have hs2 : IntKind.i64.wrap ((m : Int) + xc + 2) = (m : Int) + xc + 2 := wrapI (by omega) (by omega)
  clear hN hmm hxc hnn p0 p1 p2 p3 p4 p5 hP h k
  obtain ⟨hP, p0, p1, p3⟩ := HP.out
  go_enter Tryd.func82, Tryd.ntmps82
  go_wp2_with fail
  go_region_held3 (fun w' => w'.cell? ⟨P, 0, none⟩ = some (.int .i64 f) ∧ w'.cell? ⟨P, 1, none⟩ = some (.slice A n c) ∧ w'.cell? ⟨P, 3, none⟩ = some (.slice Ax m cx) ∧ Below w.heap.size w w')
    (first
      | exact FlatS.of HP.out.1 HP.out.2.1 HP.out.2.2.1 HP.out.2.2.2 (Below.refl _ _).drew
      | exact FlatS.of HP.out.1 HP.out.2.1 HP.out.2.2.1 HP.out.2.2.2 ((FlatS.last (P := P) (f := f) (vL := .slice A n c) (vX := .slice Ax m cx) (by assumption)).trans (hbw.mono (FlatS.last (P := P) (f := f) (vL := .slice A n c) (vX := .slice Ax m cx) (by assumption)).size)))
    (first
      | (go_at_call 44; refine (HW.out _ ?hbx).mono ?_; (case hbx => exact FlatS.last (P := P) (f := f) (vL := .slice A n c) (vX := .slice Ax m cx) (by assumption)); rintro e w2 ⟨⟨A', c', rfl⟩, hbw⟩)
      | (go_at_call 18; refine (HC.out _ ?hbx).mono ?_; (case hbx => exact FlatS.last (P := P) (f := f) (vL := .slice A n c) (vX := .slice Ax m cx) (by assumption)); rintro e w2 ⟨rfl, hbw⟩))
  have hS : FlatS P f (.slice A n c) (.slice Ax m cx) w w2 := by assumption
  have HSS := Lib.hid hS.last
  clear hS
  go_wp2_with fail
  go_ret
  exact ⟨ret_bool2 (by rw [Bool.eq_iff_iff, beq_iff_eq, decide_eq_true_eq]), HSS.out⟩

theorem flat_zero (P : Nat) (f : Int) (A : Option Addr) (c : Nat) (vA vX vS vO : Value) (w : World) (h : Dia w P f (.slice A 0 c) vA vX vS vO) :
    Calls Tryd.prog 82 #[.pointer (some ⟨P, 0, none⟩)] w fun e w' => e = .returned (.bool true) ∧ Below w.heap.size w w' := by
  obtain ⟨hP, p0, p1, p2, p3, p4, p5⟩ := h
  go_enter Tryd.func82, Tryd.ntmps82
  go_wp2_with fail
  go_quiet (fail)
  go_wp2_with fail
  go_ret
  exact ⟨rfl, by first | exact below_drewN (Below.refl _ _) _ | exact Below.refl _ _⟩

set_option maxHeartbeats 1000000 in
theorem fingered_calls (P : Nat) (f : Int) (vL vA vX vS vO : Value) (w : World) (h : Dia w P f vL vA vX vS vO) :
    Calls Tryd.prog 77 #[.pointer (some ⟨P, 0, none⟩)] w fun e w' => e = .returned (.bool (decide (0 ≤ f ∧ f ≤ 40))) ∧ Below w.heap.size w w' := by
  obtain ⟨hP, p0, p1, p2, p3, p4, p5⟩ := h
  by_cases h1 : 0 ≤ f
  · by_cases h2 : f ≤ 40
    · have HE : Hid (decide (0 ≤ f ∧ f ≤ 40) = true) := by unfold Hid; simp [h1, h2]
      go_enter Tryd.func77, Tryd.ntmps77
      go_wp2_with fail
      try go_quiet (fail)
      try go_wp2_with fail
      go_ret
      exact ⟨ret_bool2 (by first | rfl | rw [HE.out] | (rw [HE.out]; simp)), by first | exact below_drewN (Below.refl _ _) _ | exact Below.refl _ _⟩
    · have HE : Hid (decide (0 ≤ f ∧ f ≤ 40) = false) := by unfold Hid; simp [h2]
      have d2 : decide (f ≤ 40) = false := by rw [decide_eq_false_iff_not]; exact h2
      go_enter Tryd.func77, Tryd.ntmps77
      go_wp2_with fail
      try go_quiet (fail)
      try go_wp2_with fail
      go_ret
      exact ⟨ret_bool2 (by first | rfl | rw [HE.out] | (rw [HE.out]; simp)), by first | exact below_drewN (Below.refl _ _) _ | exact Below.refl _ _⟩
  · have HE : Hid (decide (0 ≤ f ∧ f ≤ 40) = false) := by unfold Hid; simp [h1]
    have d1 : decide (0 ≤ f) = false := by rw [decide_eq_false_iff_not]; exact h1
    go_enter Tryd.func77, Tryd.ntmps77
    go_wp2_with fail
    try go_quiet (fail)
    try go_wp2_with fail
    go_ret
    exact ⟨ret_bool2 (by first | rfl | rw [HE.out] | (rw [HE.out]; simp)), by first | exact below_drewN (Below.refl _ _) _ | exact Below.refl _ _⟩

/-- A code keeps to the limits. -/
def shortB (ls : List Lt) : Bool := decide (ls.length ≤ 400) && decide (cntK 2 ls ≤ 200)
set_option maxHeartbeats 1000000 in
theorem short_calls (P : Nat) (f : Int) (A : Option Addr) (n c : Nat) (ls : List Lt) (vA vX vS vO : Value) (w : World) (h : Dia w P f (.slice A n c) vA vX vS vO) (hL : LS w A n ls) :
    Calls Tryd.prog 76 #[.pointer (some ⟨P, 0, none⟩)] w fun e w' => e = .returned (.bool (shortB ls)) ∧ Below w.heap.size w w' := by
  obtain ⟨hP, p0, p1, p2, p3, p4, p5⟩ := h
  have HL := Lib.hid hL.1
  by_cases h1 : n ≤ 400
  · have hni : (n : Int) ≤ 400 := by omega
    have HC : Hid (∀ W, Below w.heap.size w W → Calls Tryd.prog 50 #[.agg #[.int .i64 f, .slice A n c], .int .i64 2] W fun e w' => e = .returned (.int .i64 (cntK 2 ls)) ∧ Below W.heap.size W w') :=
      fun W hb => count_calls f A n c ls 2 W (hL.below hb) (by omega)
    have HE : Hid (shortB ls = decide (cntK 2 ls ≤ 200)) := by unfold Hid shortB; rw [HL.out]; simp [h1]
    obtain ⟨x, hx⟩ : ∃ x, cntK 2 ls = x := ⟨_, rfl⟩
    rw [hx] at HC HE
    clear hx hL
    have HP := Lib.hid (⟨hP, p0, p1⟩ : P < w.heap.size ∧ w.cell? ⟨P, 0, none⟩ = some (.int .i64 f) ∧ w.cell? ⟨P, 1, none⟩ = some (.slice A n c))
    go_enter Tryd.func76, Tryd.ntmps76
    go_wp2_with fail
    refine (HC.out _ (Below.refl _ _)).mono ?_
    rintro e w1 ⟨rfl, hb1⟩
    have HB1 := Lib.hid hb1
    clear hb1
    go_wp2_with fail
    go_ret
    exact ⟨ret_bool2 (by rw [HE.out]), HB1.out⟩
  · have d1 : decide ((n : Int) ≤ 400) = false := by rw [decide_eq_false_iff_not]; omega
    have HE : Hid (shortB ls = false) := by unfold Hid shortB; rw [HL.out]; simp [h1]
    go_enter Tryd.func76, Tryd.ntmps76
    go_wp2_with fail
    try go_quiet (fail)
    try go_wp2_with fail
    go_ret
    exact ⟨ret_bool2 (by first | rfl | rw [HE.out] | (rw [HE.out]; simp)), by first | exact below_drewN (Below.refl _ _) _ | exact Below.refl _ _⟩

end Go.Proofs.YtbbpockkafbfmaaDoor

/-
  The conditions of a code one after the other, as stages.
-/
namespace Go.Proofs.YtbbpockkafbfmaaDoor
open Go.RowKit

/-- The other blocks stay. -/
def Keep (P : Nat) (w w' : World) : Prop := Below P w w' ∧ ∀ k, k < w.heap.size → k ≠ P → w'.heap[k]? = w.heap[k]?
theorem Keep.of {P : Nat} {w w' : World} (h : Below w.heap.size w w') (hP : P < w.heap.size) : Keep P w w' := ⟨h.mono (Nat.le_of_lt hP), fun k hk _ => h.block k hk⟩
theorem BL.of_own {w : World} {g n c B : Nat} {bs : List Bool} (h : OwnV w B 4 (.slice (some ⟨g, 0, none⟩) n c) (bs.map Value.bool)) : BL w (some ⟨g, 0, none⟩) n bs := by
  have hl := h.len
  rw [List.length_map] at hl
  refine ⟨hl, fun hn => ⟨g, 0, rfl, (h.lt g rfl).2, fun k x hk => ?_⟩⟩
  have hkn : k < n := by
    rcases Nat.lt_or_ge k bs.length with q | q
    · omega
    · rw [List.getElem?_eq_none q] at hk; cases hk
  obtain ⟨y, hy, hc, _⟩ := h.cell hkn
  rw [List.getElem?_map, hk] at hy
  injection hy with hy
  rw [Nat.zero_add, hc, ← hy]
theorem SL.of_ownV {w : World} {g n c B : Nat} {xs : List Nat} (h : OwnV w B 3 (.slice (some ⟨g, 0, none⟩) n c) (xs.map intV)) : SL w (some ⟨g, 0, none⟩) n (xs.map Int.ofNat) := by
  have hl := h.len
  rw [List.length_map] at hl
  refine ⟨by rw [List.length_map]; exact hl, fun hn => ⟨g, 0, rfl, (h.lt g rfl).2, fun k hk => ?_⟩⟩
  obtain ⟨y, hy, hc, _⟩ := h.cell hk
  have hx : xs[k]? = some xs[k] := List.getElem?_eq_getElem (by omega)
  rw [List.getElem?_map, hx] at hy
  injection hy with hy
  rw [Nat.zero_add, hc, ← hy, List.getElem?_map, hx]
  rfl

def closedB (ls : List Lt) : Bool := decide (ls.length = 0) || (ls.head?.any isPass && decide (cntB isPass ls % 2 = 0))
instance (f : Int) (l : Lt) : Decidable (plainL f l) := by unfold plainL; exact inferInstance
/-- How many passes there are. -/
def numP (f : Int) (ls : List Lt) : Nat := (befG ls (f.toNat + 1)).toNat
/-- The map of a code, from what has been noted. -/
def dmOf (f : Int) (ls : List Lt) (st : OrdS) (pt : PairS) : DM := ⟨ls.length, numP f ls, ls, aboveL ls, st.ax, st.sp, pt.ot⟩
def flatB (D : DM) : Bool := decide (D.n = 0) || decide (((D.outer (2 * D.n)).all.length : Int) = (D.m : Int) + cntK 2 D.ls / 2 + 2)
/-- The error of a code. -/
def checkE (f : Int) (ls : List Lt) : Int :=
  if shortB ls = false then 7 else if ¬ (0 ≤ f ∧ f ≤ 40) then 2 else if closedB ls = false then 3 else if ¬ (∀ l, l ∈ ls → plainL f l) then 3 else
    match ordM ls (numP f ls) ls.length ls.length with
    | none => 3
    | some st => match pairM ls (cntK 2 ls / 2) ls.length ls.length with
      | none => 3
      | some pt => if flatB (dmOf f ls st pt) = true then 0 else 3

theorem numP_eq (f : Int) (ls : List Lt) : befG ls (f.toNat + 1) = (numP f ls : Nat) := by
  unfold numP
  have := (befG_bd ls (f.toNat + 1)).1
  omega
theorem numP_le {f : Int} {ls : List Lt} (hf : 0 ≤ f ∧ f ≤ 40) (hn : ls.length ≤ 400) : numP f ls ≤ 1000000 := by
  have h1 := (befG_bd ls (f.toNat + 1)).2
  have h2 : ((f.toNat + 1 : Nat) : Int) * (ls.length : Int) ≤ 41 * 400 := by
    have e2 : ((f.toNat + 1 : Nat) : Int) ≤ 41 := by omega
    have := Int.mul_le_mul e2 (show (ls.length : Int) ≤ 400 by omega) (by omega) (by omega)
    omega
  rw [numP_eq] at h1
  omega
theorem dmOf_ok {f : Int} {ls : List Lt} {st : OrdS} {pt : PairS} (hs : shortB ls = true) (hf : 0 ≤ f ∧ f ≤ 40) (hp : ∀ l, l ∈ ls → plainL f l) (h0 : 0 < ls.length)
    (ho : ordM ls (numP f ls) ls.length ls.length = some st) (hq : pairM ls (cntK 2 ls / 2) ls.length ls.length = some pt) : (dmOf f ls st pt).ok := by
  have hl : ls.length ≤ 400 := by unfold shortB at hs; simp at hs; exact hs.1
  obtain ⟨i1, i2, i3, i4, i5⟩ := ordM_facts h0 (Nat.le_refl _) ho
  obtain ⟨j1, j2⟩ := pairM_facts h0 (Nat.le_refl _) hq
  refine ⟨rfl, by simp [dmOf, aboveL], i2, i3, j1, h0, by show ls.length ≤ 1000; omega, numP_le hf hl, fun q _ => i4 q, fun i l hi hk => ?_, fun i _ => j2 i⟩
  have hi' : ls[i]? = some l := hi
  have hlt : i < ls.length := by
    rcases Nat.lt_or_ge i ls.length with q | q
    · exact q
    · rw [List.getElem?_eq_none q] at hi'; cases hi'
  have hk1 : l.kind = 1 := by
    rcases hp l (List.mem_of_getElem? hi') with h | h
    · exact h.1
    · exact absurd h.1 hk
  exact i5 i l hlt hi' hk1

/-- Where the conditions are. -/
def Stage (f : Int) (A : Option Addr) (n c : Nat) (ls : List Lt) (P : Nat) (wr : World) : Nat → Prop
  | 0 => DiaB wr P f (.slice A n c) (.slice none 0 0) (.slice none 0 0) (.slice none 0 0) (.slice none 0 0)
  | 1 => shortB ls = true ∧ DiaB wr P f (.slice A n c) (.slice none 0 0) (.slice none 0 0) (.slice none 0 0) (.slice none 0 0)
  | 2 => shortB ls = true ∧ (0 ≤ f ∧ f ≤ 40) ∧ DiaB wr P f (.slice A n c) (.slice none 0 0) (.slice none 0 0) (.slice none 0 0) (.slice none 0 0)
  | 3 => shortB ls = true ∧ (0 ≤ f ∧ f ≤ 40) ∧ closedB ls = true ∧ ∃ ga, P < ga ∧ DiaB wr P f (.slice A n c) (.slice (some ⟨ga, 0, none⟩) n n) (.slice none 0 0) (.slice none 0 0) (.slice none 0 0) ∧
      OwnV wr ga 4 (.slice (some ⟨ga, 0, none⟩) n n) ((aboveL ls).map Value.bool)
  | 4 => shortB ls = true ∧ (0 ≤ f ∧ f ≤ 40) ∧ closedB ls = true ∧ (∀ l, l ∈ ls → plainL f l) ∧ ∃ ga, P < ga ∧ DiaB wr P f (.slice A n c) (.slice (some ⟨ga, 0, none⟩) n n) (.slice none 0 0) (.slice none 0 0) (.slice none 0 0) ∧
      OwnV wr ga 4 (.slice (some ⟨ga, 0, none⟩) n n) ((aboveL ls).map Value.bool)
  | 5 => shortB ls = true ∧ (0 ≤ f ∧ f ≤ 40) ∧ closedB ls = true ∧ (∀ l, l ∈ ls → plainL f l) ∧ ∃ ga x s st, P < ga ∧ P < x ∧ P < s ∧ ordM ls (numP f ls) n n = some st ∧
      DiaB wr P f (.slice A n c) (.slice (some ⟨ga, 0, none⟩) n n) (.slice (some ⟨x, 0, none⟩) (numP f ls) (numP f ls)) (.slice (some ⟨s, 0, none⟩) n n) (.slice none 0 0) ∧
      OwnV wr ga 4 (.slice (some ⟨ga, 0, none⟩) n n) ((aboveL ls).map Value.bool) ∧ OwnV wr x 3 (.slice (some ⟨x, 0, none⟩) (numP f ls) (numP f ls)) (st.ax.map intV) ∧ OwnV wr s 3 (.slice (some ⟨s, 0, none⟩) n n) (st.sp.map intV)
  | 6 => shortB ls = true ∧ (0 ≤ f ∧ f ≤ 40) ∧ closedB ls = true ∧ (∀ l, l ∈ ls → plainL f l) ∧ ∃ ga x s o st pt, P < ga ∧ P < x ∧ P < s ∧ P < o ∧ ordM ls (numP f ls) n n = some st ∧ pairM ls (cntK 2 ls / 2) n n = some pt ∧
      DiaB wr P f (.slice A n c) (.slice (some ⟨ga, 0, none⟩) n n) (.slice (some ⟨x, 0, none⟩) (numP f ls) (numP f ls)) (.slice (some ⟨s, 0, none⟩) n n) (.slice (some ⟨o, 0, none⟩) n n) ∧
      OwnV wr ga 4 (.slice (some ⟨ga, 0, none⟩) n n) ((aboveL ls).map Value.bool) ∧ OwnV wr x 3 (.slice (some ⟨x, 0, none⟩) (numP f ls) (numP f ls)) (st.ax.map intV) ∧ OwnV wr s 3 (.slice (some ⟨s, 0, none⟩) n n) (st.sp.map intV) ∧
      OwnV wr o 3 (.slice (some ⟨o, 0, none⟩) n n) (pt.ot.map intV)
  | _ => shortB ls = true ∧ (0 ≤ f ∧ f ≤ 40) ∧ closedB ls = true ∧ (∀ l, l ∈ ls → plainL f l) ∧ ∃ ga x s o st pt, P < ga ∧ P < x ∧ P < s ∧ P < o ∧ ordM ls (numP f ls) n n = some st ∧ pairM ls (cntK 2 ls / 2) n n = some pt ∧ flatB (dmOf f ls st pt) = true ∧
      DiaB wr P f (.slice A n c) (.slice (some ⟨ga, 0, none⟩) n n) (.slice (some ⟨x, 0, none⟩) (numP f ls) (numP f ls)) (.slice (some ⟨s, 0, none⟩) n n) (.slice (some ⟨o, 0, none⟩) n n) ∧
      OwnV wr ga 4 (.slice (some ⟨ga, 0, none⟩) n n) ((aboveL ls).map Value.bool) ∧ OwnV wr x 3 (.slice (some ⟨x, 0, none⟩) (numP f ls) (numP f ls)) (st.ax.map intV) ∧ OwnV wr s 3 (.slice (some ⟨s, 0, none⟩) n n) (st.sp.map intV) ∧
      OwnV wr o 3 (.slice (some ⟨o, 0, none⟩) n n) (pt.ot.map intV)

section
variable {f : Int} {A : Option Addr} {n c : Nat} {ls : List Lt} {P : Nat} {wr w' : World}
theorem Stage.below (hP : P < wr.heap.size) (hb : Below wr.heap.size wr w') : ∀ j, Stage f A n c ls P wr j → Stage f A n c ls P w' j
  | 0, h => DiaB.kept h (hb.block P hP)
  | 1, ⟨h1, h⟩ => ⟨h1, h.kept (hb.block P hP)⟩
  | 2, ⟨h1, h2, h⟩ => ⟨h1, h2, h.kept (hb.block P hP)⟩
  | 3, ⟨h1, h2, h3, ga, g1, h, o1⟩ => ⟨h1, h2, h3, ga, g1, h.kept (hb.block P hP), o1.below hb⟩
  | 4, ⟨h1, h2, h3, h4, ga, g1, h, o1⟩ => ⟨h1, h2, h3, h4, ga, g1, h.kept (hb.block P hP), o1.below hb⟩
  | 5, ⟨h1, h2, h3, h4, ga, x, s, st, g1, g2, g3, e1, h, o1, o2, o3⟩ => ⟨h1, h2, h3, h4, ga, x, s, st, g1, g2, g3, e1, h.kept (hb.block P hP), o1.below hb, o2.below hb, o3.below hb⟩
  | 6, ⟨h1, h2, h3, h4, ga, x, s, o, st, pt, g1, g2, g3, g4, e1, e2, h, o1, o2, o3, o4⟩ => ⟨h1, h2, h3, h4, ga, x, s, o, st, pt, g1, g2, g3, g4, e1, e2, h.kept (hb.block P hP), o1.below hb, o2.below hb, o3.below hb, o4.below hb⟩
  | _ + 7, ⟨h1, h2, h3, h4, ga, x, s, o, st, pt, g1, g2, g3, g4, e1, e2, e3, h, o1, o2, o3, o4⟩ => ⟨h1, h2, h3, h4, ga, x, s, o, st, pt, g1, g2, g3, g4, e1, e2, e3, h.kept (hb.block P hP), o1.below hb, o2.below hb, o3.below hb, o4.below hb⟩

/-- What a condition leaves. -/
def CondPost (f : Int) (A : Option Addr) (n c : Nat) (ls : List Lt) (P : Nat) (w : World) (j : Nat) (err : Int) (e : Ending) (w' : World) : Prop :=
  ∃ b, e = .returned (.bool b) ∧ Keep P w w' ∧ (b = true → Stage f A n c ls P w' (j + 1)) ∧ (b = false → checkE f ls = err)

theorem stage0 (hP : P < wr.heap.size) (hL : LS wr A n ls) (h : Stage f A n c ls P wr 0) :
    Calls Tryd.prog 76 #[.pointer (some ⟨P, 0, none⟩)] wr (CondPost f A n c ls P wr 0 7) := by
  refine (short_calls P f A n c ls _ _ _ _ wr (DiaB.dia h) hL).mono ?_
  rintro e w' ⟨rfl, hb⟩
  exact ⟨_, rfl, Keep.of hb hP, fun e => ⟨e, DiaB.kept h (hb.block P hP)⟩, fun e => by unfold checkE; rw [if_pos e]⟩
theorem stage1 (hP : P < wr.heap.size) (_hL : LS wr A n ls) (h : Stage f A n c ls P wr 1) :
    Calls Tryd.prog 77 #[.pointer (some ⟨P, 0, none⟩)] wr (CondPost f A n c ls P wr 1 2) := by
  obtain ⟨h1, h⟩ := h
  refine (fingered_calls P f _ _ _ _ _ wr h.dia).mono ?_
  rintro e w' ⟨rfl, hb⟩
  exact ⟨_, rfl, Keep.of hb hP, fun e => ⟨h1, by simpa using e, h.kept (hb.block P hP)⟩, fun e => by unfold checkE; rw [if_neg (by simp [h1]), if_pos (by simpa using e)]⟩
theorem stage2 (hP : P < wr.heap.size) (hL : LS wr A n ls) (hA : ∀ b off, A = some ⟨b, off, none⟩ → b ≠ P) (h : Stage f A n c ls P wr 2) :
    Calls Tryd.prog 78 #[.pointer (some ⟨P, 0, none⟩)] wr (CondPost f A n c ls P wr 2 3) := by
  obtain ⟨h1, h2, h⟩ := h
  have hl : ls.length ≤ 400 := by unfold shortB at h1; simp at h1; exact h1.1
  refine (closed_calls P f A n c ls _ _ _ _ wr h hL hA (by have := hL.1; omega)).mono ?_
  rintro e w' ⟨rfl, hd, ho, hk, hb⟩
  refine ⟨_, rfl, ⟨hb, hk⟩, fun e => ⟨h1, h2, by rw [← e, ← hL.1]; rfl, wr.heap.size, hP, hd, ho⟩, fun e => ?_⟩
  unfold checkE
  rw [if_neg (by simp [h1]), if_neg (by simp [h2]), if_pos (by rw [← e, ← hL.1]; rfl)]
theorem stage3 (hP : P < wr.heap.size) (hL : LS wr A n ls) (h : Stage f A n c ls P wr 3) :
    Calls Tryd.prog 79 #[.pointer (some ⟨P, 0, none⟩)] wr (CondPost f A n c ls P wr 3 3) := by
  obtain ⟨h1, h2, h3, ga, hg, h, ho⟩ := h
  have hl : ls.length ≤ 400 := by unfold shortB at h1; simp at h1; exact h1.1
  refine (plain_calls P f A n c ls _ _ _ _ wr h.dia hL (by have := hL.1; omega)).mono ?_
  rintro e w' ⟨b, rfl, hbb, hb⟩
  refine ⟨_, rfl, Keep.of hb hP, fun e => ⟨h1, h2, h3, hbb.1 e, ga, hg, h.kept (hb.block P hP), ho.below hb⟩, fun e => ?_⟩
  unfold checkE
  rw [if_neg (by simp [h1]), if_neg (by simp [h2]), if_neg (by simp [h3]), if_pos (fun c => by rw [hbb.2 c] at e; cases e)]
theorem stage4 (hP : P < wr.heap.size) (hL : LS wr A n ls) (hA : ∀ b off, A = some ⟨b, off, none⟩ → b ≠ P) (h : Stage f A n c ls P wr 4) :
    Calls Tryd.prog 80 #[.pointer (some ⟨P, 0, none⟩)] wr (CondPost f A n c ls P wr 4 3) := by
  obtain ⟨h1, h2, h3, h4, ga, hg, h, ho⟩ := h
  have hl : ls.length ≤ 400 := by unfold shortB at h1; simp at h1; exact h1.1
  have hfe : ((f.toNat : Nat) : Int) = f := by omega
  have hd : DiaB wr P (f.toNat : Int) (.slice A n c) (.slice (some ⟨ga, 0, none⟩) n n) (.slice none 0 0) (.slice none 0 0) (.slice none 0 0) := by rw [hfe]; exact h
  refine (ordered_calls P f.toNat (numP f ls) A n c ls _ _ _ _ wr hd hL hA (by have := hL.1; omega) (by omega) (fun l hl hk => ?_) (numP_eq f ls)).mono ?_
  · rcases h4 l hl with h | h
    · rw [hfe]; exact ⟨h.2.2.2.2.1, h.2.2.2.2.2⟩
    · rw [h.1] at hk; cases hk
  · rintro e w' ⟨hb, hk, ⟨hn, rfl⟩ | ⟨st, x, s, hs, rfl, hx, hxs, hd', hox, hos⟩⟩
    · refine ⟨_, rfl, ⟨hb, hk⟩, fun e => (by cases e), fun _ => ?_⟩
      unfold checkE
      rw [if_neg (by simp [h1]), if_neg (by simp [h2]), if_neg (by simp [h3]), if_neg (fun c => c h4), hL.1, hn]
    · rw [hfe] at hd'
      have hga := (ho.lt ga rfl).2
      exact ⟨_, rfl, ⟨hb, hk⟩, fun _ => ⟨h1, h2, h3, h4, ga, x, s, st, hg, by omega, by omega, hs, hd', ho.kept (hk ga hga (by omega)), hox, hos⟩, fun e => (by cases e)⟩
theorem stage5 (hP : P < wr.heap.size) (hL : LS wr A n ls) (hA : ∀ b off, A = some ⟨b, off, none⟩ → b ≠ P) (hI : ∀ l, l ∈ ls → I64 l.id) (h : Stage f A n c ls P wr 5) :
    Calls Tryd.prog 81 #[.pointer (some ⟨P, 0, none⟩)] wr (CondPost f A n c ls P wr 5 3) := by
  obtain ⟨h1, h2, h3, h4, ga, x, s, st, g1, g2, g3, e1, h, o1, o2, o3⟩ := h
  have hl : ls.length ≤ 400 := by unfold shortB at h1; simp at h1; exact h1.1
  refine (paired_calls P f A n c ls _ _ _ _ wr h hL hA (by have := hL.1; omega) hI).mono ?_
  rintro e w' ⟨hb, hk, ⟨hn, rfl⟩ | ⟨pt, o, hs, rfl, hx, hd', hoo⟩⟩
  · refine ⟨_, rfl, ⟨hb, hk⟩, fun e => (by cases e), fun _ => ?_⟩
    unfold checkE
    rw [if_neg (by simp [h1]), if_neg (by simp [h2]), if_neg (by simp [h3]), if_neg (fun c => c h4), hL.1, e1, hn]
  · exact ⟨_, rfl, ⟨hb, hk⟩, fun _ => ⟨h1, h2, h3, h4, ga, x, s, o, st, pt, g1, g2, g3, by omega, e1, hs, hd', o1.kept (hk ga (o1.lt ga rfl).2 (by omega)), o2.kept (hk x (o2.lt x rfl).2 (by omega)), o3.kept (hk s (o3.lt s rfl).2 (by omega)), hoo⟩, fun e => (by cases e)⟩
theorem stage6 (hP : P < wr.heap.size) (hL : LS wr A n ls) (h : Stage f A n c ls P wr 6) :
    Calls Tryd.prog 82 #[.pointer (some ⟨P, 0, none⟩)] wr (CondPost f A n c ls P wr 6 3) := by
  obtain ⟨h1, h2, h3, h4, ga, x, s, o, st, pt, g1, g2, g3, g4, e1, e2, h, o1, o2, o3, o4⟩ := h
  have hll := hL.1
  subst hll
  have hfin : ∀ (b : Bool) (w' : World), Below wr.heap.size wr w' → b = flatB (dmOf f ls st pt) → CondPost f A ls.length c ls P wr 6 3 (.returned (.bool b)) w' := by
    intro b w' hb hbe
    refine ⟨_, rfl, Keep.of hb hP, fun e => ⟨h1, h2, h3, h4, ga, x, s, o, st, pt, g1, g2, g3, g4, e1, e2, by rw [← hbe, e], h.kept (hb.block P hP), o1.below hb, o2.below hb, o3.below hb, o4.below hb⟩, fun e => ?_⟩
    unfold checkE
    rw [if_neg (by simp [h1]), if_neg (by simp [h2]), if_neg (by simp [h3]), if_neg (fun c => c h4), e1, e2]
    dsimp only
    rw [if_neg (by rw [← hbe, e]; simp)]
  rcases Nat.eq_zero_or_pos ls.length with h0 | h0
  · have hd := h.dia
    have hz := flat_zero P f A c _ _ _ _ wr (by rw [h0] at hd; exact hd)
    refine hz.mono ?_
    rintro e w' ⟨rfl, hb⟩
    exact hfin true w' hb (by unfold flatB dmOf; dsimp only; simp [h0])
  · have hok := dmOf_ok h1 h2 h4 h0 e1 e2
    refine (flat_calls (D := dmOf f ls st pt) hok (w := wr) (P := P) (f := f) (A := A) (Aa := some ⟨ga, 0, none⟩) (Ax := some ⟨x, 0, none⟩) (As := some ⟨s, 0, none⟩) (Ao := some ⟨o, 0, none⟩) (c := c) (ca := ls.length) (cx := numP f ls) (cs := ls.length) (co := ls.length)
      ⟨h.dia, hL, BL.of_own o1, SL.of_ownV o2, SL.of_ownV o3, SL.of_ownV o4⟩).mono ?_
    rintro e w' ⟨rfl, hb⟩
    refine hfin _ w' hb ?_
    unfold flatB
    have : ¬ (dmOf f ls st pt).n = 0 := by show ¬ ls.length = 0; omega
    simp [this]
end

end Go.Proofs.YtbbpockkafbfmaaDoor
