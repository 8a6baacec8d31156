/-
  The walks of the reference's Settle and TurnOver.
-/
import Derived.Test.YtjdabkniojmacaaDoorRefS
namespace Go.Proofs.YtjdabkniojmacaaDoor
open Go.RowKit

theorem LS.dropL {w : World} {b off n : Nat} {ls : List Lt} (h : LS w (some ⟨b, off, none⟩) n ls) {k : Nat} (hk : k ≤ n) : LS w (some ⟨b, off + k * 6, none⟩) (n - k) (ls.drop k) := by
  refine ⟨by rw [List.length_drop, h.1], fun hn => ?_⟩
  obtain ⟨b', off', hA, hb, hc⟩ := h.2 (by omega)
  injection hA with hA
  injection hA with e1 e2
  subst e1; subst e2
  refine ⟨b, off + k * 6, rfl, hb, fun j l hl => ?_⟩
  rw [List.getElem?_drop] at hl
  rw [show off + k * 6 + j * 6 = off + (k + j) * 6 by omega]
  exact hc (k + j) l hl
theorem LS.takeL {w : World} {b off n : Nat} {ls : List Lt} (h : LS w (some ⟨b, off, none⟩) n ls) {k : Nat} (hk : k ≤ n) : LS w (some ⟨b, off, none⟩) k (ls.take k) := by
  refine ⟨by rw [List.length_take, h.1]; omega, fun hn => ?_⟩
  obtain ⟨b', off', hA, hb, hc⟩ := h.2 (by omega)
  injection hA with hA
  injection hA with e1 e2
  subst e1; subst e2
  refine ⟨b, off, rfl, hb, fun j l hl => ?_⟩
  rw [List.getElem?_take] at hl
  split at hl
  · exact hc j l hl
  · cases hl

def StRel (I : Nat) (P r1 : Nat) (f : Int) (vc : Value) (w : World) (iv : Value) (wr : World) : Prop :=
  ∃ j : Nat, j ≤ I ∧ iv = .int .i64 (j : Int) ∧ wr.heap[P]? = some (.cells #[.int .i64 f, vc] 24 (0, 0)) ∧ wr.heap[r1]? = some (.cells #[.int .i64 0, .slice none 0 0] 24 (0, 0)) ∧ Below w.heap.size w wr

set_option maxHeartbeats 8000000 in
set_option maxRecDepth 100000 in
theorem settle_calls (f : Int) (b off n c dc : Nat) (Ad : Option Addr) (xs : List Lt) (ds : List Bool) (I : Nat) (w : World) (hL : LS w (some ⟨b, off, none⟩) n xs) (hD : BL w Ad n ds) (hc : n ≤ c) (hn : n ≤ 1000) (hI : I < n)
    (hp : ∀ l, xs[I]? = some l → l.kind = 1) (hd : ds[I]? = some true) (hno : ∀ k l, k < I → xs[k]? = some l → l.kind = 1 → ds[k]? = some false) :
    Calls Tryd.prog 108 #[.agg #[.int .i64 f, .slice (some ⟨b, off, none⟩) n c], .slice Ad n dc] w (OkC f n (xs.drop I ++ xs.take I) w) := by
  have HL := Lib.hid hL
  have HD := Lib.hid hD
  have HP := Lib.hid hp
  have HDI := Lib.hid hd
  have HNO := Lib.hid hno
  have HLN : Hid (xs.length = n) := hL.1
  clear hL hD hp hd hno
  go_enter Tryd.func108, Tryd.ntmps108
  go_wp2_with fail
  obtain ⟨W0, hW0⟩ : ∃ W0, W0 = (w.alloc (.cells #[.int .i64 f, .slice (some ⟨b, off, none⟩) n c] 24)).alloc (.cells #[.int .i64 0, .slice none 0 0] 24) := ⟨_, rfl⟩
  have HF0 := Lib.hid (two_mem w _ _ W0 hW0)
  rw [← hW0]
  clear hW0
  obtain ⟨P, hP⟩ : ∃ P, P = w.heap.size := ⟨_, rfl⟩
  obtain ⟨r1, hr1⟩ : ∃ r1, r1 = w.heap.size + 1 := ⟨_, rfl⟩
  have hwr1 : w.heap.size ≤ r1 := by omega
  have hPr1 : P ≠ r1 := by omega
  have HST : Hid (StRel I P r1 f (.slice (some ⟨b, off, none⟩) n c) w (.int .i64 0) W0) := ⟨0, Nat.zero_le _, rfl, by rw [hP]; exact HF0.out.1, by rw [hr1]; exact HF0.out.2.1, HF0.out.2.2.2⟩
  rw [← hr1, ← hP]
  clear HF0 hP hr1
  go_loopw [5] (fun iv wr => StRel I P r1 f (.slice (some ⟨b, off, none⟩) n c) w iv wr) (fun iv _ => n - (intOf iv).toNat)
  case atStart => exact HST.out
  case round =>
    obtain ⟨j, hj, rfl, q1, q2, q3⟩ := hrel
    have HQ := Lib.hid (And.intro q1 (And.intro q2 q3))
    have x0 := Lib.cell_of_heap q1 0
    have x1 := Lib.cell_of_heap q1 1
    have hji : (j : Int) < n := by omega
    obtain ⟨_, _, l, hA, _, hl, c0, c1, c2, c3, c4, c5⟩ := (HL.out.below q3).at_ (k := j) (by omega)
    injection hA with hA
    injection hA with e1 e2
    subst e1
    subst e2
    obtain ⟨bd, od, d, rfl, hbd, hdj, hcd⟩ := (HD.out.below q3).at_ (k := j) (by omega)
    have HLL := Lib.hid hl
    have HDJ := Lib.hid hdj
    clear q1 q2 hl hdj
    by_cases hlt : j < I
    · by_cases hk : l.kind = 1
      · have hke : (l.kind == 1) = true := by rw [beq_iff_eq]; exact hk
        have hdf : d = false := by
          have h1 := HNO.out j l hlt HLL.out hk
          rw [HDJ.out] at h1
          injection h1
        subst hdf
        clear hk q3
        go_wp2_with fail
        go_roundw
        case rel => exact ⟨j + 1, by omega, by rw [Int.natCast_add]; rfl, HQ.out.1, HQ.out.2.1, HQ.out.2.2⟩
        case measure => simp [intOf]; omega
      · have hke : (l.kind == 1) = false := by rw [beq_eq_false_iff_ne]; exact hk
        clear hk q3
        go_wp2_with fail
        go_roundw
        case rel => exact ⟨j + 1, by omega, by rw [Int.natCast_add]; rfl, HQ.out.1, HQ.out.2.1, HQ.out.2.2⟩
        case measure => simp [intOf]; omega
    · obtain rfl : j = I := by omega
      have hke : (l.kind == 1) = true := by rw [beq_iff_eq]; exact HP.out l HLL.out
      have hdt : d = true := by
        have h1 := HDI.out
        rw [HDJ.out] at h1
        injection h1
      subst hdt
      have HDR := Lib.hid ((HL.out.below q3).dropL (k := j) (by omega))
      have HTK := Lib.hid ((HL.out.below q3).takeL (k := j) (by omega))
      have hb1 : ([] : List Lt).length + (n - j) ≤ 1000000 := by simp; omega
      have hb2 : (xs.drop j).length + j ≤ 1000000 := by rw [List.length_drop, HLN.out]; omega
      have hnc : (n : Int) ≤ c := by omega
      have hjc : ¬ c = j := by omega
      have hjn : (j : Int) ≤ n := by omega
      have hjc2 : (j : Int) ≤ c := by omega
      have hlen2 : (xs.drop j ++ xs.take j).length = n := by rw [List.length_append, List.length_drop, List.length_take, HLN.out]; omega
      have HB1 := Lib.hid hb1
      have HB2 := Lib.hid hb2
      have HL2 := Lib.hid hlen2
      have hPl := heap_lt HQ.out.1
      have hrl := heap_lt HQ.out.2.1
      have HC := Lib.hid (fun W (hW : Below wr.heap.size wr W) => And.intro ((hW.block P hPl).trans HQ.out.1) ((hW.block r1 hrl).trans HQ.out.2.1))
      clear c1 c2 c3 c4 c5 q3 hb1 hb2 hlen2
      go_wp2_with fail
      clear c0 hcd
      go_region_law (first
        | (refine step_append_lts rfl (.const (.slice none 0 0)) (.tmp 31) rfl wr.heap.size (.slice none 0 0) [] (by kernel_rfl) (OwnL.nil _ _) b (off + j * 6) (n - j) (c - j) (xs.drop j) (by kernel_rfl) HDR.out HB1.out (Nat.le_refl _) ?_; intro v1 w1 hown1 hg1; rw [List.nil_append] at hown1; have hbb : Below wr.heap.size wr w1 := ((Below.refl wr.heap.size wr).drew).grown hg1 (Nat.le_refl _) (fun q hq => by cases hq); have K1 := Lib.hid (And.intro hown1 hbb); have y0 := Lib.cell_of_heap (HC.out w1 hbb).1 0; have y1 := Lib.cell_of_heap (HC.out w1 hbb).1 1; clear hown1 hg1 hbb)
        | (refine step_append_lts rfl (.tmp 32) (.tmp 36) rfl wr.heap.size v1 (xs.drop j) (by kernel_rfl) K1.out.1 b off j c (xs.take j) (by kernel_rfl) (HTK.out.below K1.out.2) HB2.out K1.out.2.size ?_; intro v2 w2 hown2 hg2; have hbb : Below wr.heap.size wr w2 := K1.out.2.grown hg2 K1.out.2.size (fun q hq => (World.ownsRow.lt K1.out.1 q hq).1); unfold OwnL at hown2; rw [HL2.out] at hown2; obtain ⟨Av, cv, rfl⟩ := own_form hown2; have K2 := Lib.hid (And.intro hown2 hbb); have z0 := Lib.cell_of_heap (HC.out w2 hbb).1 0; have z1 := Lib.cell_of_heap (HC.out w2 hbb).1 1; have r0 := Lib.cell_of_heap (HC.out w2 hbb).2 0; have r1' := Lib.cell_of_heap (HC.out w2 hbb).2 1; have rf : ∀ x, w2.frozen? ⟨r1, x, none⟩ = false := (by intro x; have h1 := (HC.out w2 hbb).2; simp [World.frozen?, h1]); clear hown2 hg2 hbb))
      all_goals
        go_wp2_with fail
        obtain ⟨X, hX⟩ : ∃ X, X = (w2.setCell ⟨r1, 0, none⟩ (.int .i64 f)).setCell ⟨r1, 1, none⟩ (.slice Av n cv) := ⟨_, rfl⟩
        have hw2 : Below w.heap.size w w2 := HQ.out.2.2.trans (K2.out.2.mono HQ.out.2.2.size)
        obtain ⟨k0, k1, hXB, _, hXK⟩ := res_end (HC.out w2 K2.out.2).2 hwr1 hw2 _ _ hX
        rw [← hX]
        refine bodyPost_ret (v := .agg #[.int .i64 f, .slice Av n cv]) (by simp [results, Tryd.results108, go_sem, k0, k1]) rfl ⟨Av, cv, rfl, ?_, by first | exact hXB | exact hXB.drew⟩
        have h1 := own_kept2' K2.out.1 (w' := X) (fun g e => hXK g (by have := (World.ownsRow.lt K2.out.1 g e).1; omega))
        exact own_base' h1 HQ.out.2.2.size

theorem own_obj_ne {w : World} {B sz n R : Nat} {v : Value} {T T' : TypeId} {xs : List Value} {cs : Array Value} {z : Nat × Nat} (h : w.ownsRow B T sz v n xs) (hR : w.heap[R]? = some (.cells cs T' z)) (hT : T ≠ T') : ∀ g, v.ownBlock = some g → g ≠ R := by
  intro g e e2
  rcases h.2 with ⟨hv, _⟩ | ⟨g', _, _, hv, _, hh, _⟩
  · rw [hv] at e; simp [Value.ownBlock] at e
  · have q : g' = g := by rw [hv] at e; simpa [Value.ownBlock] using e
    rw [q, e2, hR] at hh
    injection hh with hh
    injection hh with _ hh
    exact hT hh.symm
theorem RsRel.size {P r1 R : Nat} {f f2 : Int} {vc v : Value} {B n : Nat} {h : Lt → Lt} {ls : List Lt} {w X : World} {iv : Value} (k : RsRel P r1 R f f2 vc v B n h ls w iv X) : w.heap.size ≤ X.heap.size ∧ R < X.heap.size := by
  obtain ⟨j, h1, h2, h3, h4, h5, h6, h7⟩ := k
  exact ⟨h7.size, heap_lt h5⟩
theorem RsRel.grown {P r1 R : Nat} {f f2 : Int} {vc v dv : Value} {B B2 n m : Nat} {h : Lt → Lt} {ls : List Lt} {w X Y : World} {iv : Value} {ds : List Value} (k : RsRel P r1 R f f2 vc v B n h ls w iv X) (hd : X.ownsRow B2 4 1 dv m ds) (hg : X.grownBy Y dv.ownBlock) (hw : w.heap.size ≤ B2) :
    RsRel P r1 R f f2 vc v B n h ls w iv Y := by
  obtain ⟨j, h1, h2, h3, h4, h5, h6, h7⟩ := k
  have e : ∀ (q : Nat) (o : Array Value), X.heap[q]? = some (Obj.cells o 24 (0, 0)) → Y.heap[q]? = X.heap[q]? := fun q o hq => hg.block q (heap_lt hq) (fun e => own_obj_ne hd hq (by decide) q e.symm rfl)
  have e2 : Y.ownsRow B 48 6 v n ((MapL h ls j).flatMap ltCells) := own_kept2' h6 (fun g e1 => hg.block g ((World.ownsRow.lt h6 g e1).2) (fun e3 => own_apart h6 hd (by decide) g e1 e3.symm))
  exact ⟨j, h1, h2, (e _ _ h3).trans h3, (e _ _ h4).trans h4, (e _ _ h5).trans h5, e2, h7.grown hg h7.size (fun q hq => Nat.le_trans hw (World.ownsRow.lt hd q hq).1)⟩

set_option maxHeartbeats 4000000 in
set_option maxRecDepth 100000 in
theorem settle_none (f : Int) (A Ad : Option Addr) (c dc : Nat) (w : World) (hz : A = none → c = 0) (hsp : ∀ a, A = some a → a.spot = none) :
    Calls Tryd.prog 108 #[.agg #[.int .i64 f, .slice A 0 c], .slice Ad 0 dc] w (OkC f 0 [] w) := by
  have HCP : Hid (∀ W, Calls Tryd.prog 29 #[.agg #[.int .i64 f, .slice A 0 c]] W fun e w' => ∃ Av cv, e = .returned (.agg #[.int .i64 f, .slice Av 0 cv]) ∧ w'.ownsRow W.heap.size 48 6 (.slice Av 0 cv) 0 (([] : List Lt).flatMap ltCells) ∧ Below W.heap.size W w') :=
    fun W => refCopy2 f A 0 c [] W ⟨rfl, fun h => absurd h (by omega)⟩ hz hsp (by omega)
  clear hz hsp
  go_enter Tryd.func108, Tryd.ntmps108
  go_wp2_with fail
  obtain ⟨W0, hW0⟩ : ∃ W0, W0 = (w.alloc (.cells #[.int .i64 f, .slice A 0 c] 24)).alloc (.cells #[.int .i64 0, .slice none 0 0] 24) := ⟨_, rfl⟩
  have HF0 := Lib.hid (two_mem w _ _ W0 hW0)
  rw [← hW0]
  clear hW0
  have a0 := Lib.cell_of_heap HF0.out.1 0
  have a1 := Lib.cell_of_heap HF0.out.1 1
  go_loopw [5] (fun iv wr => iv = .int .i64 0 ∧ wr = W0) (fun _ _ => 0)
  case atStart => exact ⟨rfl, rfl⟩
  case round =>
    obtain ⟨rfl, rfl⟩ := hrel
    go_wp2_with fail
    refine (HCP.out _).mono ?_
    rintro e w1 ⟨Av, cv, rfl, ho, hb⟩
    have HM := Lib.hid (two_next HF0.out hb)
    have r0 := Lib.cell_of_heap HM.out.2.1 0
    have r1 := Lib.cell_of_heap HM.out.2.1 1
    have rf : ∀ x, w1.frozen? ⟨w.heap.size + 1, x, none⟩ = false := by intro x; have h1 := HM.out.2.1; simp [World.frozen?, h1]
    have HO := Lib.hid ho
    clear ho hb a0 a1
    go_wp2_with fail
    obtain ⟨X, hX⟩ : ∃ X, X = (w1.setCell ⟨w.heap.size + 1, 0, none⟩ (.int .i64 f)).setCell ⟨w.heap.size + 1, 1, none⟩ (.slice Av 0 cv) := ⟨_, rfl⟩
    obtain ⟨k0, k1, hXB, _, hXK⟩ := res_end HM.out.2.1 (by omega) HM.out.2.2.2 _ _ hX
    rw [← hX]
    exact bodyPost_ret (v := .agg #[.int .i64 f, .slice Av 0 cv]) (by simp [results, Tryd.results108, go_sem, k0, k1]) rfl ⟨Av, cv, rfl, own_base' (own_kept2' HO.out (fun g e => hXK g (by have := (World.ownsRow.lt HO.out g e).1; have := HF0.out.2.2.1; omega))) (by have := HF0.out.2.2.1; omega), hXB⟩

theorem BL.of_ownV {w : World} {B n c : Nat} {A : Option Addr} {ds : List Bool} (h : OwnV w B 4 (.slice A n c) (ds.map Value.bool)) (hn : ds.length = n) : BL w A n ds := by
  rcases h.2 with ⟨hv, h0⟩ | ⟨g, cap, cur, hv, _⟩
  · rw [List.length_map, hn] at h0
    exact ⟨hn, fun hp => by omega⟩
  · injection hv with e1 _ _
    subst e1
    exact BL.of_own (by first | exact h | (unfold OwnV at h ⊢; exact h))

end Go.Proofs.YtjdabkniojmacaaDoor
