/-
  The walk of the reference's Walks: how many there are.
-/
import Derived.Test.YtbbpockkafbfmaaDoorRefU
import Derived.Test.YtbbpockkafbfmaaDoorMeet
namespace Go.Proofs.YtbbpockkafbfmaaDoor
open Go.RowKit

/-- The memory of the reference's walks. -/
def RWM (K : Nat) (w : World) (gs : Nat) (met : List Bool) (walk : List Nat) (wv : Value) (vals : List Value) (ov : Value) (wr : World) : Prop :=
  met.length = K ∧ OwnV wr w.heap.size 4 (.slice (some ⟨gs, 0, none⟩) K K) (met.map Value.bool) ∧ OwnV wr w.heap.size 3 wv (walk.map intV) ∧ OwnV wr w.heap.size 28 ov vals ∧ Below w.heap.size w wr
theorem RWM.below {K : Nat} {w wr w' : World} {gs : Nat} {met : List Bool} {walk : List Nat} {wv ov : Value} {vals : List Value} (h : RWM K w gs met walk wv vals ov wr) (hb : Below wr.heap.size wr w') : RWM K w gs met walk wv vals ov w' :=
  ⟨h.1, h.2.1.below hb, h.2.2.1.below hb, h.2.2.2.1.below hb, h.2.2.2.2.trans (hb.mono h.2.2.2.2.size)⟩
theorem RWM.fresh {K : Nat} {w wr : World} {gs : Nat} {met : List Bool} {walk : List Nat} {wv ov : Value} {vals : List Value} (h : RWM K w gs met walk wv vals ov wr) : RWM K w gs met [] (.slice none 0 0) vals ov wr :=
  ⟨h.1, h.2.1, World.ownsRow_nil _ _ _ _, h.2.2.2.1, h.2.2.2.2⟩
theorem RWM.push {K : Nat} {w wr w3 : World} {gs : Nat} {met : List Bool} {walk : List Nat} {wv ov v' : Value} {vals : List Value} (h : RWM K w gs met walk wv vals ov wr) {d : Nat} (hd : d < K) (o : Obj)
    (hg : ((wr.setCell ⟨gs, d, none⟩ (.bool true)).alloc o).grownBy w3 wv.ownBlock) (ho : w3.ownsRow w.heap.size 3 1 v' (walk.length + 1) (walk.map intV ++ [.int .i64 (d : Int)])) :
    RWM K w gs (met.set d true) (walk ++ [d]) v' vals ov w3 := by
  obtain ⟨h1, h2, h3, h4, h5⟩ := h
  obtain ⟨hgb, hgs⟩ := h2.lt gs rfl
  obtain ⟨wa, hwa⟩ : ∃ wa, wa = wr.setCell ⟨gs, d, none⟩ (.bool true) := ⟨_, rfl⟩
  rw [← hwa] at hg
  have hsa : wa.heap.size = wr.heap.size := by rw [hwa]; simp
  have ka : ∀ q, q ≠ gs → wa.heap[q]? = wr.heap[q]? := fun q hq => by rw [hwa]; exact Below.heap_setCell _ _ _ q hq
  have hba : Below wa.heap.size wa (wa.alloc o) := (Below.refl _ _).alloc (Nat.le_refl _) _
  have k3 : ∀ q, q < wa.heap.size → some q ≠ wv.ownBlock → w3.heap[q]? = wa.heap[q]? := fun q h0 h1 => (hg.block q (by have := hba.size; omega) h1).trans (hba.block q h0)
  have b1 : Below w.heap.size w wa := by rw [hwa]; exact h5.setCell (p := ⟨gs, d, none⟩) hgb _
  have b2 : Below w.heap.size w (wa.alloc o) := b1.alloc (by have := b1.size; omega) o
  have ap1 := own_apart h2 h3 (by decide)
  have ap2 := own_apart h4 h3 (by decide)
  have ap3 := own_apart h4 h2 (by decide)
  refine ⟨by rw [List.length_set]; exact h1, ?_, ?_, ?_, b2.grown hg b2.size (fun j hj => (h3.lt j hj).1)⟩
  · have e1 := h2.set (k := d) hd (.bool true)
    rw [← hwa, ← List.map_set] at e1
    exact e1.kept (k3 gs (by omega) (fun e => ap1 gs rfl e.symm))
  · unfold OwnV
    have e : (walk.map intV ++ [d].map intV).length = walk.length + 1 := by simp
    rw [List.map_append, e]
    exact ho
  · exact own_kept2 h4 (fun p hp => (k3 p (by have := (h4.lt p hp).2; omega) (fun e => ap2 p hp e.symm)).trans (ka p (fun e => by subst e; exact ap3 p hp rfl)))
theorem RWM.face {K : Nat} {w wr w5 : World} {gs : Nat} {met : List Bool} {walk : List Nat} {wv ov v' x : Value} {vals : List Value} (h : RWM K w gs met walk wv vals ov wr) (o : Obj)
    (hg : (wr.alloc o).grownBy w5 ov.ownBlock) (ho : w5.ownsRow w.heap.size 28 1 v' (vals.length + 1) (vals ++ [x])) : RWM K w gs met [] (.slice none 0 0) (vals ++ [x]) v' w5 := by
  obtain ⟨h1, h2, h3, h4, h5⟩ := h
  obtain ⟨hgb, hgs⟩ := h2.lt gs rfl
  have hba : Below wr.heap.size wr (wr.alloc o) := (Below.refl _ _).alloc (Nat.le_refl _) _
  have k3 : ∀ q, q < wr.heap.size → some q ≠ ov.ownBlock → w5.heap[q]? = wr.heap[q]? := fun q h0 h1 => (hg.block q (by have := hba.size; omega) h1).trans (hba.block q h0)
  have ap := own_apart h2 h4 (by decide)
  have b2 : Below w.heap.size w (wr.alloc o) := h5.alloc (by have := h5.size; omega) o
  refine ⟨h1, h2.kept (k3 gs hgs (fun e => ap gs rfl e.symm)), World.ownsRow_nil _ _ _ _, ?_, b2.grown hg b2.size (fun j hj => (h4.lt j hj).1)⟩
  unfold OwnV
  rw [List.length_append]
  exact ho

def RWOut (T : Nat → Nat) (K : Nat) (w : World) (gs g : Nat) (ov dv : Value) (wr : World) : Prop :=
  ∃ q vals, g + q = K ∧ dv = .int .i64 (q : Int) ∧ vals.length = (refOut T K q).2.length ∧ vals.length ≤ q ∧ RWM K w gs (refOut T K q).1 [] (.slice none 0 0) vals ov wr
def RWIn (T : Nat → Nat) (K : Nat) (w : World) (gs : Nat) (R : List Bool × List Nat) (vals : List Value) (ov : Value) (g : Nat) (wv xv : Value) (wr : World) : Prop :=
  ∃ (x : Nat) (met : List Bool) (walk : List Nat), xv = .int .i64 (x : Int) ∧ x < K ∧ refIn T g x met walk = R ∧ met.count false < g ∧ walk.length + met.count false ≤ K ∧ RWM K w gs met walk wv vals ov wr

set_option maxHeartbeats 8000000 in
set_option maxRecDepth 100000 in
theorem refWalks_calls {D : DM} (g : D.good) (f : Int) (A : Option Addr) (c : Nat) (w : World) (hL : LS w A D.n D.ls)
    (hAX : ∀ W, Below w.heap.size w W → Calls Tryd.prog 46 #[.agg #[.int .i64 f, .slice A D.n c]] W fun e w' => ∃ Ax cx, e = .returned (.slice Ax D.m cx) ∧ SL w' Ax D.m (D.ax.map Int.ofNat) ∧ Below W.heap.size W w') :
    Calls Tryd.prog 37 #[.agg #[.int .i64 f, .slice A D.n c]] w fun e w' => (∃ A' c', e = .returned (.slice A' (refOut D.turn (2 * D.n + 2 * D.m) (2 * D.n + 2 * D.m)).2.length c')) ∧ Below w.heap.size w w' := by
  have HG := Lib.hid g
  have HLS := Lib.hid hL
  have HAX := Lib.hid hAX
  have hn := g.ok.n1
  have hmn : D.m ≤ D.n := by
    have h2 := cntB_take_le isPass D.ls D.n
    rw [List.take_of_length_le (by rw [g.ok.ls]; omega), g.npass] at h2
    omega
  have hturn : ∀ x, x < 2 * D.n + 2 * D.m → D.turn x < 2 * D.n + 2 * D.m := by
    have hx := turn_ext g
    intro x hxK
    by_cases h : x < 2 * D.n
    · by_cases h2 : D.turn x < 2 * D.n
      · omega
      · exact (hx.axis x h (by omega)).1
    · obtain ⟨y, hy, e⟩ := hx.onto x (by omega) hxK
      rw [← e, (hx.axis y hy (by omega)).2]
      have := hx.lt y hy
      omega
  have HTU := Lib.hid hturn
  clear hturn hL hAX g
  have HTC : Hid (∀ W Ax cx d, Below w.heap.size w W → SL W Ax D.m (D.ax.map Int.ofNat) → d < 2 * D.n + 2 * D.m → Calls Tryd.prog 71 #[.agg #[.int .i64 f, .slice A D.n c], .slice Ax D.m cx, .int .i64 (d : Int)] W fun e w' => e = .returned (.int .i64 (D.turn d)) ∧ Below W.heap.size W w') :=
    fun W Ax cx d hb hs hd => turn_calls HG.out f A Ax c cx d W (HLS.out.below hb) hs hd
  obtain ⟨n, hnn⟩ : ∃ n, D.n = n := ⟨_, rfl⟩
  obtain ⟨m, hmm⟩ : ∃ m, D.m = m := ⟨_, rfl⟩
  obtain ⟨K, hK⟩ : ∃ K, 2 * D.n + 2 * D.m = K := ⟨_, rfl⟩
  obtain ⟨xs, hxs⟩ : ∃ xs, D.ax.map Int.ofNat = xs := ⟨_, rfl⟩
  obtain ⟨T, hT⟩ : ∃ T, D.turn = T := ⟨_, rfl⟩
  rw [hK, hxs, hT, hmm] at HTC
  rw [hnn] at HTC
  rw [hK, hT] at HTU ⊢
  rw [hmm, hxs, hnn] at HAX
  rw [hnn] at hn hmn ⊢
  rw [hmm] at hmn
  have hKe : K = 2 * n + 2 * m := by omega
  have hK4 : K ≤ 4000 := by omega
  have HKE := Lib.hid hKe
  clear hK hxs hT hnn hmm HG HLS
  have hsz : (2 * (n : Int) + 2 * (m : Int)) = (K : Int) := by omega
  have HX := Lib.hid (Box.made w f A n c 33)
  have HB0 : Hid (Below w.heap.size w (w.alloc (.cells #[.int .i64 f, .slice A n c] 33))) := (Below.refl _ _).alloc (Nat.le_refl _) _
  clear hKe
  go_enter Tryd.func37, Tryd.ntmps37
  go_wp2_with fail
  refine (HAX.out _ HB0.out).mono ?_
  rintro e w1 ⟨Ax, cx, rfl, hs1, hb1⟩
  obtain ⟨hP1, a0, a1⟩ := HX.out.below hb1
  have HB1 : Hid (Below w.heap.size w w1) := HB0.out.trans (hb1.mono HB0.out.size)
  have HBX := Lib.hid (HX.out.below hb1)
  have HS1 := Lib.hid hs1
  clear hs1 hb1 HX HB0 HAX
  go_wp2_with (first
    | (at_make; refine wpList_make_boolsV rfl _ _ rfl K (K : Int) rfl rfl rfl (by omega) ?_; intro w2 hown2 hb2; have HO2 := Lib.hid hown2; have HB2 := Lib.hid hb2; clear hown2 hb2))
  obtain ⟨gs, hgs⟩ : ∃ gs, gs = w1.heap.size := ⟨_, rfl⟩
  have HST : Hid (RWOut T K w1 gs K (.slice none 0 0) (.int .i64 0) w2) := by
    refine ⟨0, [], rfl, rfl, rfl, Nat.le_refl _, by simp [refOut], ?_, World.ownsRow_nil _ _ _ _, World.ownsRow_nil _ _ _ _, HB2.out⟩
    have h1 := HO2.out
    rw [hgs]
    unfold refOut
    rw [List.map_replicate]
    exact h1
  rw [← hgs]
  clear HO2 hgs hP1 a0 a1 HB2
  go_loopg [3, 6] K (fun g ov dv wr => RWOut T K w1 gs g ov dv wr)
  case atStart => exact HST.out
  case round =>
    obtain ⟨q, vals, hq, rfl, hvl, hvq, hmem⟩ := hrel
    have HMEM := Lib.hid hmem
    obtain ⟨hml, hmo, _, hvo, hbel⟩ := hmem
    have HVL := Lib.hid hvl
    have HMO := Lib.hid hmo
    have HBEL := Lib.hid hbel
    have HML := Lib.hid hml
    clear hml hmo hvo hbel hvl
    cases gk with
    | zero =>
      obtain rfl : q = K := by omega
      go_wp2_with fail
      go_ret
      obtain ⟨A', c', hv⟩ := HMEM.out.2.2.2.1.form
      rw [hv, HVL.out]
      exact ⟨⟨A', c', rfl⟩, HB1.out.trans (HBEL.out.mono HB1.out.size)⟩
    | succ g =>
      have hqK : q < K := by omega
      have hqi : (q : Int) < (K : Int) := by omega
      obtain ⟨mv0, hmv0, hmc, hmf, hgb, hms⟩ := HMO.out.cell (k := q) hqK
      obtain ⟨mv, hmv, rfl⟩ : ∃ mv, (refOut T K q).1[q]? = some mv ∧ mv0 = .bool mv := by
        rw [List.getElem?_map] at hmv0
        cases hh : (refOut T K q).1[q]? with
        | none => rw [hh] at hmv0; cases hmv0
        | some x => rw [hh] at hmv0; injection hmv0 with hmv0; exact ⟨x, rfl, hmv0.symm⟩
      have HMV := Lib.hid hmv
      clear hmv hmv0
      cases mv with
      | true =>
        have HN : Hid (refOut T K (q + 1) = refOut T K q) := by
          unfold Hid
          rw [refOut, if_pos (by rw [getD_is HMV.out])]
        go_wp2_with fail
        go_roundg g
        case measure => omega
        case rel => exact ⟨q + 1, vals, by omega, by rw [Int.natCast_add]; rfl, by rw [HN.out]; exact HVL.out, by omega, by rw [HN.out]; exact HMEM.out⟩
      | false =>
        obtain ⟨R, hR⟩ : ∃ R, refIn T (2 * K + 2) q (refOut T K q).1 [] = R := ⟨_, rfl⟩
        have HN : Hid (refOut T K (q + 1) = (R.1, (refOut T K q).2 ++ [R.2])) := by
          unfold Hid
          rw [refOut, if_neg (by rw [getD_is HMV.out]; decide), hR]
        have HR := Lib.hid hR
        have hcf : (refOut T K q).1.count false ≤ K := by have := List.count_le_length (a := false) (l := (refOut T K q).1); have := HML.out; omega
        clear hR
        go_wp2_with fail
        go_loopg [7, 8] (2 * K + 2) (fun g2 wv xv wr => RWIn T K w1 gs R vals u3 g2 wv xv wr)
        case atStart => exact ⟨q, (refOut T K q).1, [], rfl, hqK, HR.out, by omega, by simpa using hcf, HMEM.out⟩
        case round =>
          obtain ⟨x, met, walk, rfl, hxK, hR, hcnt, hwc, hmem⟩ := hrel
          have HM2 := Lib.hid hmem
          obtain ⟨hml, hmo, hwo, hvo, hbel⟩ := hmem
          have HMO2 := Lib.hid hmo
          have HWO2 := Lib.hid hwo
          have HVO2 := Lib.hid hvo
          have HBE2 := Lib.hid hbel
          have HR2 := Lib.hid hR
          clear hml hmo hwo hvo hbel hR
          cases gk with
          | zero => omega
          | succ g2 =>
            have hxi : (x : Int) < (K : Int) := by omega
            obtain ⟨mv0, hmv0, hmc, hmf, hgb2, hms2⟩ := HMO2.out.cell (k := x) hxK
            obtain ⟨mv, hmv, rfl⟩ : ∃ mv, met[x]? = some mv ∧ mv0 = .bool mv := by
              rw [List.getElem?_map] at hmv0
              cases hh : met[x]? with
              | none => rw [hh] at hmv0; cases hmv0
              | some y => rw [hh] at hmv0; injection hmv0 with hmv0; exact ⟨y, rfl, hmv0.symm⟩
            have HMV2 := Lib.hid hmv
            clear hmv hmv0
            cases mv with
            | true =>
              have HRR : Hid (R = (met, walk)) := by
                unfold Hid
                rw [← HR2.out, refIn, if_pos (by rw [getD_is HMV2.out])]
              have HVOW : Hid (∀ o, (wr.alloc o).ownsRow w1.heap.size 28 1 u3 vals.length vals) := fun o => HVO2.out.below ((Below.refl _ _).alloc (Nat.le_refl _) o)
              have HFACE : Hid (∀ o v' w5, (wr.alloc o).grownBy w5 u3.ownBlock → w5.ownsRow w1.heap.size 28 1 v' (vals.length + 1) (vals ++ [u7]) → RWM K w1 gs met [] (.slice none 0 0) (vals ++ [u7]) v' w5) :=
                fun o v' w5 h1 h2 => HM2.out.face o h1 h2
              obtain ⟨i0, hi, hz0, hz1, hz2⟩ := info_parts infoSlice
              have hbw : w1.heap.size ≤ wr.heap.size := HBE2.out.size
              obtain ⟨Aw, cw, hu7⟩ := HWO2.out.form
              obtain ⟨wl, hwl⟩ : ∃ wl, (walk.map intV).length = wl := ⟨_, rfl⟩
              rw [hwl] at hu7
              rw [hu7] at HFACE ⊢
              clear hwl
              have hvl4 : vals.length ≤ 4000 := by omega
              go_wp2_with (first
                | (at_builtin; refine wpList_append_own_at _ rfl _ _ 26 rfl w1.heap.size 28 i0 (.slice none 0 0) 1 24 Tryd.underlying26 hi hz0 hz1 hz2 rfl (by decide) u3 vals.length _ rfl (HVOW.out _) ⟨wr.heap.size, 0, none⟩ 1 1 [.slice Aw wl cw] rfl rfl (cell_one_new _ _ _) (by intro u hu; rw [List.mem_singleton] at hu; subst hu; rfl) (by unfold maxLen; omega) (by omega) (by simp; omega) ?_; intro v' w5 hown5 hgr5 hnil hloc; have H5 := Lib.hid (HFACE.out _ _ _ hgr5 hown5); clear hown5 hgr5 hnil hloc))
              go_roundg g
              case measure => omega
              case rel =>
                refine ⟨q + 1, vals ++ [.slice Aw wl cw], by omega, by rw [Int.natCast_add]; rfl, by rw [HN.out, List.length_append, List.length_append, HVL.out]; rfl, by rw [List.length_append]; simp; omega, ?_⟩
                rw [HN.out, HRR.out]
                exact H5.out
            | false =>
              have hst2 := count_set_true HMV2.out
              have HRR : Hid (refIn T g2 (T x) (met.set x true) (walk ++ [x]) = R) := by
                unfold Hid
                rw [← HR2.out, refIn, if_neg (by rw [getD_is HMV2.out]; decide)]
              have HSZ : Hid ((wr.setCell ⟨gs, x, none⟩ (.bool true)).heap.size = wr.heap.size) := by unfold Hid; simp
              have HWOW : Hid (∀ o, ((wr.setCell ⟨gs, x, none⟩ (.bool true)).alloc o).ownsRow w1.heap.size 3 1 u7 walk.length (walk.map intV)) := by
                intro o
                have h1 : (wr.setCell ⟨gs, x, none⟩ (.bool true)).ownsRow w1.heap.size 3 1 u7 (walk.map intV).length (walk.map intV) :=
                  own_kept2 HWO2.out (fun p hp => Below.heap_setCell _ _ _ p (fun e => by subst e; exact own_apart HWO2.out HMO2.out (by decide) _ hp rfl))
                rw [List.length_map] at h1
                exact ownsRow_below h1 ((Below.refl _ _).alloc (Nat.le_refl _) o)
              have HCELL : Hid (∀ Ty, ∀ j u, [Value.int .i64 (x : Int)][j]? = some u → ((wr.setCell ⟨gs, x, none⟩ (.bool true)).alloc (.cells #[.int .i64 (x : Int)] Ty)).cell? ((⟨wr.heap.size, 0, none⟩ : Addr).add j) = some u) := by
                intro Ty j u hju
                have h1 := cell_one_new (wr.setCell ⟨gs, x, none⟩ (.bool true)) (.int .i64 (x : Int)) Ty j u hju
                rw [HSZ.out] at h1
                exact h1
              have HPUSH : Hid (∀ o v' w3, ((wr.setCell ⟨gs, x, none⟩ (.bool true)).alloc o).grownBy w3 u7.ownBlock → w3.ownsRow w1.heap.size 3 1 v' (walk.length + 1) (walk.map intV ++ [.int .i64 (x : Int)]) →
                  RWM K w1 gs (met.set x true) (walk ++ [x]) v' vals u3 w3) := fun o v' w3 h1 h2 => HM2.out.push hxK o h1 h2
              have HTX : Hid (∀ W, Below w1.heap.size w1 W → Calls Tryd.prog 71 #[.agg #[.int .i64 f, .slice A n c], .slice Ax m cx, .int .i64 (x : Int)] W fun e w' => e = .returned (.int .i64 (T x)) ∧ Below W.heap.size W w') :=
                fun W hW => HTC.out W Ax cx x (HB1.out.trans (hW.mono HB1.out.size)) (HS1.out.below hW) hxK
              obtain ⟨i0, hi, hz0, hz1, hz2⟩ := info_parts infoInt'
              have hne : ¬ gs = wr.heap.size := by omega
              have hbw : w1.heap.size ≤ wr.heap.size := HBE2.out.size
              have hwl : walk.length ≤ 4000 := by omega
              go_wp2_with (first
                | (at_builtin; refine wpList_append_own_at _ rfl _ _ 28 rfl w1.heap.size 3 i0 (.int .i64 0) 1 8 Tryd.underlying28 hi hz0 hz1 hz2 rfl (by decide) u7 walk.length (walk.map intV) rfl (HWOW.out _) ⟨wr.heap.size, 0, none⟩ 1 1 [.int .i64 (x : Int)] rfl rfl (HCELL.out _) (by intro u hu; rw [List.mem_singleton] at hu; subst hu; rfl) (by unfold maxLen; omega) (by omega) (by simp; omega) ?_; intro v' w3 hown3 hgr3 hnil hloc; have H3 := Lib.hid (HPUSH.out _ _ _ hgr3 hown3); obtain ⟨_, b0, b1⟩ := HBX.out.below H3.out.2.2.2.2; clear hown3 hgr3 hnil hloc)
                | (go_at_call 71; refine (HTX.out _ H3.out.2.2.2.2).mono ?_; rintro e w4 ⟨rfl, hb4⟩))
              go_roundg g2
              case measure => omega
              case rel =>
                exact ⟨T x, met.set x true, walk ++ [x], rfl, HTU.out x hxK, HRR.out, by omega, by rw [List.length_append]; simp; omega, H3.out.below hb4⟩

end Go.Proofs.YtbbpockkafbfmaaDoor
