/-
  Gap Rev, one after the other.
-/
import Derived.Test.YtbbpockkafbfmaaDoorDraw
import Derived.Laws.OwnMore

/-
  The walks of gapsAfter and gap: the gaps of the axis, their places and fingers.
-/
namespace Go.Proofs.YtbbpockkafbfmaaDoor
open Go.RowKit

/-- The gaps along which one walks who comes to a spot and turns left. -/
def gapsM (m s : Nat) (above : Bool) : List Nat :=
  if above = true ∧ s + 1 = m then [m, 0] else if above = true then [s + 1] else if s = 0 then [0, m] else [s]
def GapsPost (l : List Nat) (w : World) (e : Ending) (w' : World) : Prop :=
  ∃ g, e = .returned (.slice (some ⟨g, 0, none⟩) l.length l.length) ∧ w.heap.size ≤ g ∧ OwnV w' g 3 (.slice (some ⟨g, 0, none⟩) l.length l.length) (l.map intV) ∧ Below w.heap.size w w'
theorem GapsPost.of {l : List Nat} {w w1 w' : World} (hb : Below w.heap.size w w1) (h : w' = w1.alloc (.cells (l.map intV).toArray 3)) (hl : l.length ≤ 10) : GapsPost l w (.returned (.slice (some ⟨w1.heap.size, 0, none⟩) l.length l.length)) w' := by
  subst h
  refine ⟨w1.heap.size, rfl, hb.size, ?_, hb.alloc hb.size _⟩
  refine ⟨by simp, .inr ⟨w1.heap.size, l.length, _, by simp, Nat.le_refl _, heap_alloc_new w1 _, by simp, by unfold maxLen; omega, by simp, by
    rw [Nat.mul_one, List.take_of_length_le (by simp)]⟩⟩

set_option maxHeartbeats 2000000 in
theorem gapsAfter_calls (P : Nat) (f : Int) (A Aa Ax As : Option Addr) (n c na ca m cx ns cs pass s : Nat) (above : Bool) (sp : List Int) (vO : Value) (w : World)
    (h : Dia w P f (.slice A n c) (.slice Aa na ca) (.slice Ax m cx) (.slice As ns cs) vO) (hS : SL w As ns sp) (hp : pass < ns) (hs : sp[pass]? = some (s : Int)) (hsm : s < m) (hm : m ≤ 1000000) :
    Calls Tryd.prog 85 #[.pointer (some ⟨P, 0, none⟩), .int .i64 (pass : Int), .bool above] w (GapsPost (gapsM m s above) w) := by
  obtain ⟨hP, p0, p1, p2, p3, p4, p5⟩ := h
  obtain ⟨bS, oS, s', rfl, hbS, hs', cs0⟩ := hS.at_ hp
  obtain rfl : (s : Int) = s' := by rw [hs'] at hs; injection hs with hs; exact hs.symm
  have hpi : (pass : Int) < ns := by omega
  clear hS hs hs'
  cases above
  · by_cases h0 : s = 0
    · subst h0
      have HG : Hid (gapsM m 0 false = [0, m]) := by unfold Hid gapsM; simp
      go_enter Tryd.func85, Tryd.ntmps85
      go_wp2_with fail
      go_quiet (fail)
      go_wp2_with fail
      go_ret
      rw [HG.out]
      exact GapsPost.of (l := [0, m]) (w1 := w.drewN nq) (below_drewN (Below.refl _ _) _) rfl (by simp)
    · have h1 : ((s : Int) == 0) = false := by rw [beq_eq_false_iff_ne]; omega
      have HG : Hid (gapsM m s false = [s]) := by unfold Hid gapsM; simp [h0]
      clear h0
      go_enter Tryd.func85, Tryd.ntmps85
      go_wp2_with fail
      go_quiet (fail)
      go_wp2_with fail
      go_ret
      rw [HG.out]
      exact GapsPost.of (l := [s]) (w1 := w.drewN nq) (below_drewN (Below.refl _ _) _) rfl (by simp)
  · have hs1 : IntKind.i64.wrap ((s : Int) + 1) = (s : Int) + 1 := wrapI (by omega) (by omega)
    by_cases h0 : s + 1 = m
    · have h1 : (s : Int) + 1 = (m : Int) := by omega
      have HG : Hid (gapsM m s true = [m, 0]) := by unfold Hid gapsM; simp [h0]
      clear h0 hs1
      go_enter Tryd.func85, Tryd.ntmps85
      go_wp2_with fail
      go_quiet (fail)
      go_wp2_with fail
      go_ret
      rw [HG.out]
      exact GapsPost.of (l := [m, 0]) (w1 := w.drewN nq) (below_drewN (Below.refl _ _) _) rfl (by simp)
    · have h1 : ¬ (s : Int) + 1 = (m : Int) := by omega
      have HG : Hid (gapsM m s true = [s + 1]) := by unfold Hid gapsM; simp [h0]
      clear h0 hs1
      go_enter Tryd.func85, Tryd.ntmps85
      go_wp2_with fail
      go_quiet (fail)
      go_wp2_with fail
      go_ret
      rw [HG.out]
      exact GapsPost.of (l := [s + 1]) (w1 := w.drewN nq) (below_drewN (Below.refl _ _) _) rfl (by simp)

/-- The places and the fingers of a gap. -/
def gapFrom (ls : List Lt) (ax : List Nat) (s : Nat) : Int × Int := if s = 0 then (0, 0) else match ls[ax.getD (s - 1) 0]? with | some l => (l.gate, l.rank) | none => (0, 0)
def gapTo (f : Int) (ls : List Lt) (ax : List Nat) (m s : Nat) : Int := if s < m then (match ls[ax.getD s 0]? with | some l => l.gate | none => 0) else f
/-- The fingers behind one, k of them. -/
def upFrom (g : Int) : Nat → List Int
  | 0 => []
  | k + 1 => upFrom g k ++ [g + (k : Int) + 1]
def gapFingers (f : Int) (ls : List Lt) (ax : List Nat) (m s : Nat) : List Int := upFrom (gapFrom ls ax s).1 (gapTo f ls ax m s - (gapFrom ls ax s).1).toNat
def gapPlaces (f : Int) (ls : List Lt) (ax : List Nat) (m s : Nat) : List (Int × Int) := gapFrom ls ax s :: (gapFingers f ls ax m s).map fun g => (g, 0)
def placeVs (ps : List (Int × Int)) : List Value := ps.flatMap fun p => [.int .i64 p.1, .int .i64 p.2]
/-- An own slice of places. -/
def OwnP (w : World) (B : Nat) (v : Value) (ps : List (Int × Int)) : Prop := w.ownsRow B 69 2 v ps.length (placeVs ps)
/-- An own slice of integers. -/
def OwnZ (w : World) (B : Nat) (v : Value) (xs : List Int) : Prop := w.ownsRow B 3 1 v xs.length (xs.map (Value.int .i64))
theorem OwnP.below {w w' : World} {B : Nat} {v : Value} {ps : List (Int × Int)} (h : OwnP w B v ps) (hb : Below w.heap.size w w') : OwnP w' B v ps := ownsRow_below h hb
theorem OwnZ.below {w w' : World} {B : Nat} {v : Value} {xs : List Int} (h : OwnZ w B v xs) (hb : Below w.heap.size w w') : OwnZ w' B v xs := ownsRow_below h hb

theorem infoPlace : (Tryd.prog.info? 69).map (fun i => (i.zero, i.size, i.bytes)) = some (some (.agg #[.int .i64 0, .int .i64 0]), 2, 16) := by kernel_rfl
theorem cells_new (w : World) (xs : List Value) (T : TypeId) : ∀ j u, xs[j]? = some u → (w.alloc (.cells xs.toArray T)).cell? ((⟨w.heap.size, 0, none⟩ : Addr).add j) = some u := by
  intro j u h
  rw [Go.WideShapes.add_plain, Nat.zero_add, Lib.cell_of_heap (heap_alloc_new w (.cells xs.toArray T)) j]
  simpa using h
theorem upFrom_len (g : Int) : ∀ k, (upFrom g k).length = k
  | 0 => rfl
  | k + 1 => by rw [upFrom, List.length_append, upFrom_len g k]; rfl
theorem placeVs_snoc (ps : List (Int × Int)) (a b : Int) : placeVs (ps ++ [(a, b)]) = placeVs ps ++ [.int .i64 a, .int .i64 b] := by simp [placeVs]
def GpMem (w : World) (fg fr : Int) (j k : Nat) (vp vf : Value) (wr : World) : Prop :=
  OwnP wr w.heap.size vp ((fg, fr) :: (upFrom fg j).map fun g => (g, 0)) ∧ OwnZ wr w.heap.size vf (upFrom fg k) ∧ (∀ g, vp.ownBlock = some g → vf.ownBlock ≠ some g) ∧ Below w.heap.size w wr
theorem GpMem.place {w wr w1 : World} {fg fr : Int} {j : Nat} {vp vf v1 : Value} (h : GpMem w fg fr j j vp vf wr) (o : Obj) (hg : (wr.alloc o).grownBy w1 vp.ownBlock)
    (ho : w1.ownsRow w.heap.size 69 2 v1 (j + 1 + 1) (placeVs ((fg, fr) :: (upFrom fg j).map fun g => (g, 0)) ++ [.int .i64 (fg + (j : Int) + 1), .int .i64 0])) (hl : v1.ownBlock = vp.ownBlock ∨ v1.ownBlock = some (wr.alloc o).heap.size) :
    GpMem w fg fr (j + 1) j v1 vf w1 := by
  obtain ⟨h1, h2, h3, h4⟩ := h
  have hb : Below w.heap.size w (wr.alloc o) := h4.alloc h4.size o
  have h2' := ownsRow_below h2 ((Below.refl _ _).alloc (Nat.le_refl _) o)
  refine ⟨?_, h2'.kept hg ?_, ?_, hb.grown hg hb.size (fun k hk => (World.ownsRow.lt h1 k hk).1)⟩
  · unfold OwnP
    rw [upFrom, List.map_append, ← List.cons_append, List.length_append]
    show w1.ownsRow _ _ 2 v1 _ (placeVs (_ ++ [(fg + (j : Int) + 1, 0)]))
    rw [placeVs_snoc]
    have e : ((fg, fr) :: (upFrom fg j).map fun g => (g, (0 : Int))).length + (([fg + (j : Int) + 1] : List Int).map fun g => (g, (0 : Int))).length = j + 1 + 1 := by simp [upFrom_len]
    rw [e]
    exact ho
  · rcases hv : vf.ownBlock with _ | g
    · exact .inl rfl
    · refine .inr fun e => ?_
      exact h3 g (by rw [← e]) hv
  · intro g hv1 hvf
    rcases hl with e | e
    · exact h3 g (by rw [← e]; exact hv1) hvf
    · rw [e] at hv1
      injection hv1 with hv1
      have := (World.ownsRow.lt h2' g hvf).2
      omega
theorem GpMem.finger {w wr w1 : World} {fg fr : Int} {j : Nat} {vp vf v1 : Value} (h : GpMem w fg fr (j + 1) j vp vf wr) (o : Obj) (hg : (wr.alloc o).grownBy w1 vf.ownBlock)
    (ho : w1.ownsRow w.heap.size 3 1 v1 (j + 1) ((upFrom fg j).map (Value.int .i64) ++ [.int .i64 (fg + (j : Int) + 1)])) (hl : v1.ownBlock = vf.ownBlock ∨ v1.ownBlock = some (wr.alloc o).heap.size) :
    GpMem w fg fr (j + 1) (j + 1) vp v1 w1 := by
  obtain ⟨h1, h2, h3, h4⟩ := h
  have hb : Below w.heap.size w (wr.alloc o) := h4.alloc h4.size o
  have h1' := ownsRow_below h1 ((Below.refl _ _).alloc (Nat.le_refl _) o)
  refine ⟨h1'.kept hg ?_, ?_, ?_, hb.grown hg hb.size (fun k hk => (World.ownsRow.lt h2 k hk).1)⟩
  · rcases hv : vp.ownBlock with _ | g
    · exact .inl rfl
    · exact .inr fun e => h3 g hv e.symm
  · unfold OwnZ
    rw [upFrom, List.map_append, List.length_append, upFrom_len]
    exact ho
  · intro g hv1 hvf
    rcases hl with e | e
    · exact h3 g hv1 (by rw [← e]; exact hvf)
    · rw [e] at hvf
      injection hvf with hvf
      have := (World.ownsRow.lt h1' g hv1).2
      omega
theorem OwnP.lit (w w1 : World) (fg fr : Int) (b : Nat) (hb : b = w1.heap.size) (hw : w.heap.size ≤ w1.heap.size) : OwnP (w1.alloc (.cells #[.int .i64 fg, .int .i64 fr] 69)) w.heap.size (.slice (some ⟨b, 0, none⟩) 1 1) [(fg, fr)] := by
  subst hb
  exact ⟨rfl, .inr ⟨w1.heap.size, 1, _, rfl, hw, heap_alloc_new w1 _, Nat.le_refl _, by unfold maxLen; omega, rfl, rfl⟩⟩
def GpRel (w : World) (fg fr : Int) (K : Nat) (vp vf gv : Value) (wr : World) : Prop := ∃ j : Nat, j ≤ K ∧ gv = .int .i64 (fg + (j : Int) + 1) ∧ GpMem w fg fr j j vp vf wr

set_option maxHeartbeats 4000000 in
set_option maxRecDepth 100000 in
theorem gap_calls {D : DM} (k : D.ok) {w : World} {P : Nat} {f : Int} {A Aa Ax As Ao : Option Addr} {c ca cx cs co : Nat} (h : DMem D w P f A Aa Ax As Ao c ca cx cs co) (s : Nat) (hs : s ≤ D.m) (hf : f ≤ 40) (hg : ∀ l, l ∈ D.ls → 0 ≤ l.gate ∧ l.gate ≤ f) :
    Calls Tryd.prog 109 #[.pointer (some ⟨P, 0, none⟩), .int .i64 (s : Int)] w fun e w' => ∃ vp vf, e = .returned (.tuple #[vp, vf]) ∧
      OwnP w' w.heap.size vp (gapPlaces f D.ls D.ax D.m s) ∧ OwnZ w' w.heap.size vf (gapFingers f D.ls D.ax D.m s) ∧ Below w.heap.size w w' := by
  obtain ⟨hP, p0, p1, p2, p3, p4, p5⟩ := h.1
  have HLS := Lib.hid h.2.1
  have HAX := Lib.hid h.2.2.2.1
  have HKO := Lib.hid k
  obtain ⟨n, hnn⟩ : ∃ n, D.n = n := ⟨_, rfl⟩
  obtain ⟨m, hmm⟩ : ∃ m, D.m = m := ⟨_, rfl⟩
  have hm1 := k.m1
  rw [hnn] at p1 p2 p4 p5 HLS
  rw [hmm] at p3 hs HAX hm1
  have HNN := Lib.hid hnn
  have HMM := Lib.hid hmm
  have HGT := Lib.hid hg
  have HLET : Hid (∀ q, q < m → ∃ l, D.ls[D.ax.getD q 0]? = some l ∧ D.ax.getD q 0 < n) := by
    intro q hq
    have h1 := HKO.out.axb q (by rw [HMM.out]; exact hq)
    exact ⟨_, List.getElem?_eq_getElem (by rw [HKO.out.ls]; exact h1), by rw [← HNN.out]; exact h1⟩
  rw [hmm]
  clear hnn hmm hg h k
  by_cases h0 : s = 0
  · subst h0
    obtain ⟨fg, hfg⟩ : ∃ fg : Int, fg = 0 := ⟨_, rfl⟩
    have HFG := Lib.hid hfg
    have HFR : Hid (gapFrom D.ls D.ax 0 = (fg, 0)) := by rw [hfg]; rfl
    have hfg0 : 0 ≤ fg := by omega
    have hfg1 : fg ≤ 0 := by omega
    clear hfg
    by_cases h1 : 0 < m
    · obtain ⟨l, hl, hax⟩ := HLET.out 0 h1
      have HTO : Hid (gapTo f D.ls D.ax m 0 = l.gate) := by unfold Hid gapTo; rw [if_pos h1, hl]
      have hgl := HGT.out l (List.mem_of_getElem? hl)
      obtain ⟨hgl0, hgl1⟩ := hgl
      obtain ⟨bX0, oX0, x0', rfl, hbX0, hx0', cx0⟩ := HAX.out.at_ h1
      obtain rfl : (D.ax.getD (0) 0 : Int) = x0' := by have h1 := map_ofNat_at (l := D.ax) (i := 0) (by rw [HKO.out.ax, HMM.out]; exact h1); rw [hx0'] at h1; injection h1 with h1; exact h1.symm
      obtain ⟨aq0, haq0⟩ : ∃ aq, D.ax.getD (0) 0 = aq := ⟨_, rfl⟩
      rw [haq0] at cx0 hax hl
      obtain ⟨bL0, oL0, l0', rfl, hbL0, hl0', d00, d10, d20, d30, d40, d50⟩ := HLS.out.at_ hax
      obtain rfl : l = l0' := by rw [hl] at hl0'; injection hl0'
      have hai0 : (aq0 : Int) < n := by omega
      have ha00 : (0 : Int) ≤ aq0 := by omega
      have hmi : (0 : Int) < m := by omega
      rw [Nat.add_zero] at cx0
      clear hl hx0' hl0' haq0
      go_enter Tryd.func109, Tryd.ntmps109
      go_wp2_with fail
      go_quiet (fail)
      go_wp2_with fail
      obtain ⟨K, hK⟩ : ∃ K, (l.gate - fg).toNat = K := ⟨_, rfl⟩
      have hK40 : K ≤ 40 := by omega
      have HKK := Lib.hid hK
      obtain ⟨W1, hW1⟩ : ∃ W1, W1 = ((w.alloc (.cells #[.int .i64 0, .int .i64 0] 69)).drewN nq).alloc (.cells #[.int .i64 0, .int .i64 0] 69) := ⟨_, rfl⟩
      obtain ⟨B1, hB1⟩ : ∃ B1, B1 = w.heap.size + 1 := ⟨_, rfl⟩
      have HB1 : Hid (Below w.heap.size w W1) := by rw [hW1]; exact (below_drewN ((Below.refl _ _).alloc (Nat.le_refl _) _) _).alloc (by simp) _
      have HO1 : Hid (OwnP W1 w.heap.size (.slice (some ⟨B1, 0, none⟩) 1 1) [(fg, 0)]) := by rw [hW1, HFG.out]; exact OwnP.lit w _ 0 0 _ (by rw [hB1]; simp) (by simp)
      rw [← hW1, ← hB1]
      clear hW1 hB1 hK
      have HST : Hid (GpRel w fg 0 K (.slice (some ⟨B1, 0, none⟩) 1 1) (.slice none 0 0) (.int .i64 1) W1) := by
        refine ⟨0, Nat.zero_le _, by rw [HFG.out]; rfl, ?_, World.ownsRow_nil _ _ _ _, by simp [Value.ownBlock], HB1.out⟩
        exact HO1.out
      go_loopw [9, 10, 11] (fun vp vf gv wr => GpRel w fg 0 K vp vf gv wr) (fun _ _ gv _ => (l.gate + 1 - intOf gv).toNat)
      case atStart => exact HST.out
      case round =>
        obtain ⟨j, hj, rfl, hm⟩ := hrel
        have HM := Lib.hid hm
        by_cases hlt : j < K
        · have hle : fg + (j : Int) + 1 ≤ l.gate := by have := HKK.out; omega
          have hb1 := hm.2.2.2.size
          have HPW : Hid (∀ o, (wr.alloc o).ownsRow w.heap.size 69 2 u9 (j + 1) (placeVs ((fg, 0) :: (upFrom fg j).map fun g => (g, 0)))) := by
            intro o
            have h1 := ownsRow_below hm.1 ((Below.refl _ _).alloc (Nat.le_refl _) o)
            have e : ((fg, 0) :: (upFrom fg j).map fun g => (g, (0 : Int))).length = j + 1 := by simp [upFrom_len]
            rw [e] at h1
            exact h1
          have HPL : Hid (∀ o v1 w1, (wr.alloc o).grownBy w1 u9.ownBlock → w1.ownsRow w.heap.size 69 2 v1 (j + 1 + 1) (placeVs ((fg, 0) :: (upFrom fg j).map fun g => (g, 0)) ++ [.int .i64 (fg + (j : Int) + 1), .int .i64 0]) → (v1.ownBlock = u9.ownBlock ∨ v1.ownBlock = some (wr.alloc o).heap.size) →
              GpMem w fg 0 (j + 1) j v1 u10 w1) := fun o v1 w1 h1 h2 h3 => HM.out.place o h1 h2 h3
          obtain ⟨i0, hi, hz0, hz1, hz2⟩ := info_parts infoPlace
          obtain ⟨k0, ki, kz0, kz1, kz2⟩ := info_parts infoInt'
          clear hm
          go_wp2_with (first
            | (at_builtin; refine wpList_append_own_at _ rfl _ _ 43 rfl w.heap.size 69 i0 (.agg #[.int .i64 0, .int .i64 0]) 2 16 Tryd.underlying43 hi hz0 hz1 hz2 rfl (by decide) u9 (j + 1) _ rfl (HPW.out _) ⟨wr.heap.size, 0, none⟩ 1 1 [.int .i64 (fg + (j : Int) + 1), .int .i64 0] rfl rfl (cells_new _ _ _) (by intro u hu; simp only [List.mem_cons, List.not_mem_nil, or_false] at hu; rcases hu with rfl | rfl <;> rfl) (by unfold maxLen; omega) (by omega) (by simp; omega) ?_; intro v1 w1 hown1 hgr1 hnil1 hloc1; have H1 := Lib.hid (HPL.out _ _ _ hgr1 hown1 hloc1); have hb2 := H1.out.2.2.2.size; have HZW : Hid (∀ o, (w1.alloc o).ownsRow w.heap.size 3 1 u10 j ((upFrom fg j).map (Value.int .i64))) := (by intro o; have h1 := ownsRow_below H1.out.2.1 ((Below.refl _ _).alloc (Nat.le_refl _) o); rw [upFrom_len] at h1; exact h1); clear hown1 hgr1 hnil1 hloc1)
            | (at_builtin; refine wpList_append_own_at _ rfl _ _ 28 rfl w.heap.size 3 k0 (.int .i64 0) 1 8 Tryd.underlying28 ki kz0 kz1 kz2 rfl (by decide) u10 j _ rfl (HZW.out _) ⟨w1.heap.size, 0, none⟩ 1 1 [.int .i64 (fg + (j : Int) + 1)] rfl rfl (cell_one_new _ _ _) (by intro u hu; rw [List.mem_singleton] at hu; subst hu; rfl) (by unfold maxLen; omega) (by omega) (by simp; omega) ?_; intro v2 w2 hown2 hgr2 hnil2 hloc2; have H2 := Lib.hid (H1.out.finger _ hgr2 hown2 hloc2); clear hown2 hgr2 hnil2 hloc2))
          go_roundw
          case rel =>
            have hrr : GpRel w fg 0 K v1 v2 (.int .i64 (fg + (j : Int) + 1 + 1)) w2 := ⟨j + 1, by omega, by congr 1; omega, H2.out⟩
            first | exact hrr | ((repeat (apply Exists.intro)); exact And.intro hrr rfl)
          case measure => simp [intOf]; omega
        · have hjk : j = K := by omega
          subst hjk
          have hle : ¬ fg + (j : Int) + 1 ≤ l.gate := by have := HKK.out; omega
          go_wp2_with fail
          go_ret2
          refine ⟨_, _, rfl, ?_, ?_, HM.out.2.2.2⟩
          · have h1 := HM.out.1
            unfold gapPlaces gapFingers
            rw [HFR.out, HTO.out]
            show OwnP _ _ _ ((fg, 0) :: (upFrom fg (l.gate - fg).toNat).map fun g => (g, 0))
            rw [HKK.out]
            exact h1
          · have h1 := HM.out.2.1
            unfold gapFingers
            rw [HFR.out, HTO.out]
            show OwnZ _ _ _ (upFrom fg (l.gate - fg).toNat)
            rw [HKK.out]
            exact h1
    · obtain rfl : m = 0 := by omega
      have HTO : Hid (gapTo f D.ls D.ax 0 0 = f) := by unfold Hid gapTo; rw [if_neg (by omega)]
      go_enter Tryd.func109, Tryd.ntmps109
      go_wp2_with fail
      obtain ⟨K, hK⟩ : ∃ K, (f - fg).toNat = K := ⟨_, rfl⟩
      have hK40 : K ≤ 40 := by omega
      have HKK := Lib.hid hK
      obtain ⟨W1, hW1⟩ : ∃ W1, W1 = (w.alloc (.cells #[.int .i64 0, .int .i64 0] 69)).alloc (.cells #[.int .i64 0, .int .i64 0] 69) := ⟨_, rfl⟩
      obtain ⟨B1, hB1⟩ : ∃ B1, B1 = w.heap.size + 1 := ⟨_, rfl⟩
      have HB1 : Hid (Below w.heap.size w W1) := by rw [hW1]; exact ((Below.refl _ _).alloc (Nat.le_refl _) _).alloc (by simp) _
      have HO1 : Hid (OwnP W1 w.heap.size (.slice (some ⟨B1, 0, none⟩) 1 1) [(fg, 0)]) := by rw [hW1, HFG.out]; exact OwnP.lit w _ 0 0 _ (by rw [hB1]; simp) (by simp)
      rw [← hW1, ← hB1]
      clear hW1 hB1 hK
      have HST : Hid (GpRel w fg 0 K (.slice (some ⟨B1, 0, none⟩) 1 1) (.slice none 0 0) (.int .i64 1) W1) := by
        refine ⟨0, Nat.zero_le _, by rw [HFG.out]; rfl, ?_, World.ownsRow_nil _ _ _ _, by simp [Value.ownBlock], HB1.out⟩
        exact HO1.out
      go_loopw [9, 10, 11] (fun vp vf gv wr => GpRel w fg 0 K vp vf gv wr) (fun _ _ gv _ => (f + 1 - intOf gv).toNat)
      case atStart => exact HST.out
      case round =>
        obtain ⟨j, hj, rfl, hm⟩ := hrel
        have HM := Lib.hid hm
        by_cases hlt : j < K
        · have hle : fg + (j : Int) + 1 ≤ f := by have := HKK.out; omega
          have hb1 := hm.2.2.2.size
          have HPW : Hid (∀ o, (wr.alloc o).ownsRow w.heap.size 69 2 u9 (j + 1) (placeVs ((fg, 0) :: (upFrom fg j).map fun g => (g, 0)))) := by
            intro o
            have h1 := ownsRow_below hm.1 ((Below.refl _ _).alloc (Nat.le_refl _) o)
            have e : ((fg, 0) :: (upFrom fg j).map fun g => (g, (0 : Int))).length = j + 1 := by simp [upFrom_len]
            rw [e] at h1
            exact h1
          have HPL : Hid (∀ o v1 w1, (wr.alloc o).grownBy w1 u9.ownBlock → w1.ownsRow w.heap.size 69 2 v1 (j + 1 + 1) (placeVs ((fg, 0) :: (upFrom fg j).map fun g => (g, 0)) ++ [.int .i64 (fg + (j : Int) + 1), .int .i64 0]) → (v1.ownBlock = u9.ownBlock ∨ v1.ownBlock = some (wr.alloc o).heap.size) →
              GpMem w fg 0 (j + 1) j v1 u10 w1) := fun o v1 w1 h1 h2 h3 => HM.out.place o h1 h2 h3
          obtain ⟨i0, hi, hz0, hz1, hz2⟩ := info_parts infoPlace
          obtain ⟨k0, ki, kz0, kz1, kz2⟩ := info_parts infoInt'
          clear hm
          go_wp2_with (first
            | (at_builtin; refine wpList_append_own_at _ rfl _ _ 43 rfl w.heap.size 69 i0 (.agg #[.int .i64 0, .int .i64 0]) 2 16 Tryd.underlying43 hi hz0 hz1 hz2 rfl (by decide) u9 (j + 1) _ rfl (HPW.out _) ⟨wr.heap.size, 0, none⟩ 1 1 [.int .i64 (fg + (j : Int) + 1), .int .i64 0] rfl rfl (cells_new _ _ _) (by intro u hu; simp only [List.mem_cons, List.not_mem_nil, or_false] at hu; rcases hu with rfl | rfl <;> rfl) (by unfold maxLen; omega) (by omega) (by simp; omega) ?_; intro v1 w1 hown1 hgr1 hnil1 hloc1; have H1 := Lib.hid (HPL.out _ _ _ hgr1 hown1 hloc1); have hb2 := H1.out.2.2.2.size; have HZW : Hid (∀ o, (w1.alloc o).ownsRow w.heap.size 3 1 u10 j ((upFrom fg j).map (Value.int .i64))) := (by intro o; have h1 := ownsRow_below H1.out.2.1 ((Below.refl _ _).alloc (Nat.le_refl _) o); rw [upFrom_len] at h1; exact h1); clear hown1 hgr1 hnil1 hloc1)
            | (at_builtin; refine wpList_append_own_at _ rfl _ _ 28 rfl w.heap.size 3 k0 (.int .i64 0) 1 8 Tryd.underlying28 ki kz0 kz1 kz2 rfl (by decide) u10 j _ rfl (HZW.out _) ⟨w1.heap.size, 0, none⟩ 1 1 [.int .i64 (fg + (j : Int) + 1)] rfl rfl (cell_one_new _ _ _) (by intro u hu; rw [List.mem_singleton] at hu; subst hu; rfl) (by unfold maxLen; omega) (by omega) (by simp; omega) ?_; intro v2 w2 hown2 hgr2 hnil2 hloc2; have H2 := Lib.hid (H1.out.finger _ hgr2 hown2 hloc2); clear hown2 hgr2 hnil2 hloc2))
          go_roundw
          case rel =>
            have hrr : GpRel w fg 0 K v1 v2 (.int .i64 (fg + (j : Int) + 1 + 1)) w2 := ⟨j + 1, by omega, by congr 1; omega, H2.out⟩
            first | exact hrr | ((repeat (apply Exists.intro)); exact And.intro hrr rfl)
          case measure => simp [intOf]; omega
        · have hjk : j = K := by omega
          subst hjk
          have hle : ¬ fg + (j : Int) + 1 ≤ f := by have := HKK.out; omega
          go_wp2_with fail
          go_ret2
          refine ⟨_, _, rfl, ?_, ?_, HM.out.2.2.2⟩
          · have h1 := HM.out.1
            unfold gapPlaces gapFingers
            rw [HFR.out, HTO.out]
            show OwnP _ _ _ ((fg, 0) :: (upFrom fg (f - fg).toNat).map fun g => (g, 0))
            rw [HKK.out]
            exact h1
          · have h1 := HM.out.2.1
            unfold gapFingers
            rw [HFR.out, HTO.out]
            show OwnZ _ _ _ (upFrom fg (f - fg).toNat)
            rw [HKK.out]
            exact h1
  · obtain ⟨s, rfl⟩ := Nat.exists_eq_succ_of_ne_zero h0
    rw [Nat.succ_eq_add_one] at hs ⊢
    obtain ⟨l0, hl0, hax0⟩ := HLET.out s (by omega)
    have HFR : Hid (gapFrom D.ls D.ax (s + 1) = (l0.gate, l0.rank)) := by unfold Hid gapFrom; rw [if_neg (by omega), Nat.add_sub_cancel, hl0]
    have hgl := HGT.out l0 (List.mem_of_getElem? hl0)
    obtain ⟨hgl0, hgl1⟩ := hgl
    have hsm : s < m := by omega
    have hsi : (s : Int) < m := by omega
    obtain ⟨bX0, oX0, x0', rfl, hbX0, hx0', cx0⟩ := HAX.out.at_ hsm
    obtain rfl : (D.ax.getD (s) 0 : Int) = x0' := by have h1 := map_ofNat_at (l := D.ax) (i := s) (by rw [HKO.out.ax, HMM.out]; exact hsm); rw [hx0'] at h1; injection h1 with h1; exact h1.symm
    obtain ⟨aq0, haq0⟩ : ∃ aq, D.ax.getD (s) 0 = aq := ⟨_, rfl⟩
    rw [haq0] at cx0 hax0 hl0
    obtain ⟨bL0, oL0, l0', rfl, hbL0, hl0', d00, d10, d20, d30, d40, d50⟩ := HLS.out.at_ hax0
    obtain rfl : l0 = l0' := by rw [hl0] at hl0'; injection hl0'
    have hai0 : (aq0 : Int) < n := by omega
    have ha00 : (0 : Int) ≤ aq0 := by omega
    by_cases h1 : s + 1 < m
    · obtain ⟨l1, hl1, hax1⟩ := HLET.out (s + 1) h1
      have HTO : Hid (gapTo f D.ls D.ax m (s + 1) = l1.gate) := by unfold Hid gapTo; rw [if_pos h1, hl1]
      have hgm := HGT.out l1 (List.mem_of_getElem? hl1)
      obtain ⟨hgm0, hgm1⟩ := hgm
      have hsi1 : (s : Int) + 1 < m := by omega
      obtain ⟨bX1, oX1, x1', hAX1, hbX1, hx1', cx1⟩ := HAX.out.at_ h1
      obtain ⟨rfl, rfl⟩ : bX0 = bX1 ∧ oX0 = oX1 := by injection hAX1 with e; injection e with e1 e2; exact ⟨e1, e2⟩
      obtain rfl : (D.ax.getD (s + 1) 0 : Int) = x1' := by have h1 := map_ofNat_at (l := D.ax) (i := s + 1) (by rw [HKO.out.ax, HMM.out]; exact h1); rw [hx1'] at h1; injection h1 with h1; exact h1.symm
      obtain ⟨aq1, haq1⟩ : ∃ aq, D.ax.getD (s + 1) 0 = aq := ⟨_, rfl⟩
      rw [haq1] at cx1 hax1 hl1
      obtain ⟨bL1, oL1, l1', hAL1, hbL1, hl1', d01, d11, d21, d31, d41, d51⟩ := HLS.out.at_ hax1
      obtain ⟨rfl, rfl⟩ : bL0 = bL1 ∧ oL0 = oL1 := by injection hAL1 with e; injection e with e1 e2; exact ⟨e1, e2⟩
      obtain rfl : l1 = l1' := by rw [hl1] at hl1'; injection hl1'
      have hai1 : (aq1 : Int) < n := by omega
      have ha10 : (0 : Int) ≤ aq1 := by omega
      clear hl0 hl1 hx0' hl0' haq0 hx1' hl1' haq1 hAX1 hAL1
      go_enter Tryd.func109, Tryd.ntmps109
      go_wp2_with fail
      go_region
      go_wp2_with fail
      go_quiet (fail)
      go_wp2_with fail
      obtain ⟨K, hK⟩ : ∃ K, (l1.gate - l0.gate).toNat = K := ⟨_, rfl⟩
      have hK40 : K ≤ 40 := by omega
      have HKK := Lib.hid hK
      obtain ⟨W1, hW1⟩ : ∃ W1, W1 = (((w.alloc (.cells #[.int .i64 l0.gate, .int .i64 l0.rank] 69)).alloc (.cells #[.int .i64 l0.kind, .int .i64 l0.gate, .int .i64 l0.rank, .int .i64 l0.id, .int .i64 l0.sign, .bool l0.over] 50)).drewN (1 + nq)).alloc (.cells #[.int .i64 l0.gate, .int .i64 l0.rank] 69) := ⟨_, rfl⟩
      obtain ⟨B1, hB1⟩ : ∃ B1, B1 = w.heap.size + 1 + 1 := ⟨_, rfl⟩
      have HB1 : Hid (Below w.heap.size w W1) := by rw [hW1]; exact (below_drewN (((Below.refl _ _).alloc (Nat.le_refl _) _).alloc (by simp) _) _).alloc (by simp; omega) _
      have HO1 : Hid (OwnP W1 w.heap.size (.slice (some ⟨B1, 0, none⟩) 1 1) [(l0.gate, l0.rank)]) := by rw [hW1]; exact OwnP.lit w _ l0.gate l0.rank _ (by rw [hB1]; simp) (by simp; omega)
      rw [← hW1, ← hB1]
      clear hW1 hB1 hK
      have HST : Hid (GpRel w l0.gate l0.rank K (.slice (some ⟨B1, 0, none⟩) 1 1) (.slice none 0 0) (.int .i64 (l0.gate + 1)) W1) := by
        refine ⟨0, Nat.zero_le _, by congr 1; omega, ?_, World.ownsRow_nil _ _ _ _, by simp [Value.ownBlock], HB1.out⟩
        exact HO1.out
      go_loopw [9, 10, 11] (fun vp vf gv wr => GpRel w l0.gate l0.rank K vp vf gv wr) (fun _ _ gv _ => (l1.gate + 1 - intOf gv).toNat)
      case atStart => exact HST.out
      case round =>
        obtain ⟨j, hj, rfl, hm⟩ := hrel
        have HM := Lib.hid hm
        by_cases hlt : j < K
        · have hle : l0.gate + (j : Int) + 1 ≤ l1.gate := by have := HKK.out; omega
          have hb1 := hm.2.2.2.size
          have HPW : Hid (∀ o, (wr.alloc o).ownsRow w.heap.size 69 2 u9 (j + 1) (placeVs ((l0.gate, l0.rank) :: (upFrom l0.gate j).map fun g => (g, 0)))) := by
            intro o
            have h1 := ownsRow_below hm.1 ((Below.refl _ _).alloc (Nat.le_refl _) o)
            have e : ((l0.gate, l0.rank) :: (upFrom l0.gate j).map fun g => (g, (0 : Int))).length = j + 1 := by simp [upFrom_len]
            rw [e] at h1
            exact h1
          have HPL : Hid (∀ o v1 w1, (wr.alloc o).grownBy w1 u9.ownBlock → w1.ownsRow w.heap.size 69 2 v1 (j + 1 + 1) (placeVs ((l0.gate, l0.rank) :: (upFrom l0.gate j).map fun g => (g, 0)) ++ [.int .i64 (l0.gate + (j : Int) + 1), .int .i64 0]) → (v1.ownBlock = u9.ownBlock ∨ v1.ownBlock = some (wr.alloc o).heap.size) →
              GpMem w l0.gate l0.rank (j + 1) j v1 u10 w1) := fun o v1 w1 h1 h2 h3 => HM.out.place o h1 h2 h3
          obtain ⟨i0, hi, hz0, hz1, hz2⟩ := info_parts infoPlace
          obtain ⟨k0, ki, kz0, kz1, kz2⟩ := info_parts infoInt'
          clear hm
          go_wp2_with (first
            | (at_builtin; refine wpList_append_own_at _ rfl _ _ 43 rfl w.heap.size 69 i0 (.agg #[.int .i64 0, .int .i64 0]) 2 16 Tryd.underlying43 hi hz0 hz1 hz2 rfl (by decide) u9 (j + 1) _ rfl (HPW.out _) ⟨wr.heap.size, 0, none⟩ 1 1 [.int .i64 (l0.gate + (j : Int) + 1), .int .i64 0] rfl rfl (cells_new _ _ _) (by intro u hu; simp only [List.mem_cons, List.not_mem_nil, or_false] at hu; rcases hu with rfl | rfl <;> rfl) (by unfold maxLen; omega) (by omega) (by simp; omega) ?_; intro v1 w1 hown1 hgr1 hnil1 hloc1; have H1 := Lib.hid (HPL.out _ _ _ hgr1 hown1 hloc1); have hb2 := H1.out.2.2.2.size; have HZW : Hid (∀ o, (w1.alloc o).ownsRow w.heap.size 3 1 u10 j ((upFrom l0.gate j).map (Value.int .i64))) := (by intro o; have h1 := ownsRow_below H1.out.2.1 ((Below.refl _ _).alloc (Nat.le_refl _) o); rw [upFrom_len] at h1; exact h1); clear hown1 hgr1 hnil1 hloc1)
            | (at_builtin; refine wpList_append_own_at _ rfl _ _ 28 rfl w.heap.size 3 k0 (.int .i64 0) 1 8 Tryd.underlying28 ki kz0 kz1 kz2 rfl (by decide) u10 j _ rfl (HZW.out _) ⟨w1.heap.size, 0, none⟩ 1 1 [.int .i64 (l0.gate + (j : Int) + 1)] rfl rfl (cell_one_new _ _ _) (by intro u hu; rw [List.mem_singleton] at hu; subst hu; rfl) (by unfold maxLen; omega) (by omega) (by simp; omega) ?_; intro v2 w2 hown2 hgr2 hnil2 hloc2; have H2 := Lib.hid (H1.out.finger _ hgr2 hown2 hloc2); clear hown2 hgr2 hnil2 hloc2))
          go_roundw
          case rel =>
            have hrr : GpRel w l0.gate l0.rank K v1 v2 (.int .i64 (l0.gate + (j : Int) + 1 + 1)) w2 := ⟨j + 1, by omega, by congr 1; omega, H2.out⟩
            first | exact hrr | ((repeat (apply Exists.intro)); exact And.intro hrr rfl)
          case measure => simp [intOf]; omega
        · have hjk : j = K := by omega
          subst hjk
          have hle : ¬ l0.gate + (j : Int) + 1 ≤ l1.gate := by have := HKK.out; omega
          go_wp2_with fail
          go_ret2
          refine ⟨_, _, rfl, ?_, ?_, HM.out.2.2.2⟩
          · have h1 := HM.out.1
            unfold gapPlaces gapFingers
            rw [HFR.out, HTO.out]
            show OwnP _ _ _ ((l0.gate, l0.rank) :: (upFrom l0.gate (l1.gate - l0.gate).toNat).map fun g => (g, 0))
            rw [HKK.out]
            exact h1
          · have h1 := HM.out.2.1
            unfold gapFingers
            rw [HFR.out, HTO.out]
            show OwnZ _ _ _ (upFrom l0.gate (l1.gate - l0.gate).toNat)
            rw [HKK.out]
            exact h1
    · -- the last gap
      have HTO : Hid (gapTo f D.ls D.ax m (s + 1) = f) := by unfold Hid gapTo; rw [if_neg h1]
      have hsi1 : ¬ (s : Int) + 1 < m := by omega
      clear hl0 hx0' hl0' haq0
      go_enter Tryd.func109, Tryd.ntmps109
      go_wp2_with fail
      go_region
      go_wp2_with fail
      obtain ⟨K, hK⟩ : ∃ K, (f - l0.gate).toNat = K := ⟨_, rfl⟩
      have hK40 : K ≤ 40 := by omega
      have HKK := Lib.hid hK
      obtain ⟨W1, hW1⟩ : ∃ W1, W1 = (((w.alloc (.cells #[.int .i64 l0.gate, .int .i64 l0.rank] 69)).alloc (.cells #[.int .i64 l0.kind, .int .i64 l0.gate, .int .i64 l0.rank, .int .i64 l0.id, .int .i64 l0.sign, .bool l0.over] 50)).alloc (.cells #[.int .i64 l0.gate, .int .i64 l0.rank] 69)).drew := ⟨_, rfl⟩
      obtain ⟨B1, hB1⟩ : ∃ B1, B1 = w.heap.size + 1 + 1 := ⟨_, rfl⟩
      have HB1 : Hid (Below w.heap.size w W1) := by rw [hW1]; exact ((((Below.refl _ _).alloc (Nat.le_refl _) _).alloc (by simp) _).alloc (by simp; omega) _).drew
      have HO1 : Hid (OwnP W1 w.heap.size (.slice (some ⟨B1, 0, none⟩) 1 1) [(l0.gate, l0.rank)]) := by rw [hW1]; exact OwnP.lit w _ l0.gate l0.rank _ (by rw [hB1]; simp) (by simp; omega)
      rw [← hW1, ← hB1]
      clear hW1 hB1 hK
      have HST : Hid (GpRel w l0.gate l0.rank K (.slice (some ⟨B1, 0, none⟩) 1 1) (.slice none 0 0) (.int .i64 (l0.gate + 1)) W1) := by
        refine ⟨0, Nat.zero_le _, by congr 1; omega, ?_, World.ownsRow_nil _ _ _ _, by simp [Value.ownBlock], HB1.out⟩
        exact HO1.out
      go_loopw [9, 10, 11] (fun vp vf gv wr => GpRel w l0.gate l0.rank K vp vf gv wr) (fun _ _ gv _ => (f + 1 - intOf gv).toNat)
      case atStart => exact HST.out
      case round =>
        obtain ⟨j, hj, rfl, hm⟩ := hrel
        have HM := Lib.hid hm
        by_cases hlt : j < K
        · have hle : l0.gate + (j : Int) + 1 ≤ f := by have := HKK.out; omega
          have hb1 := hm.2.2.2.size
          have HPW : Hid (∀ o, (wr.alloc o).ownsRow w.heap.size 69 2 u9 (j + 1) (placeVs ((l0.gate, l0.rank) :: (upFrom l0.gate j).map fun g => (g, 0)))) := by
            intro o
            have h1 := ownsRow_below hm.1 ((Below.refl _ _).alloc (Nat.le_refl _) o)
            have e : ((l0.gate, l0.rank) :: (upFrom l0.gate j).map fun g => (g, (0 : Int))).length = j + 1 := by simp [upFrom_len]
            rw [e] at h1
            exact h1
          have HPL : Hid (∀ o v1 w1, (wr.alloc o).grownBy w1 u9.ownBlock → w1.ownsRow w.heap.size 69 2 v1 (j + 1 + 1) (placeVs ((l0.gate, l0.rank) :: (upFrom l0.gate j).map fun g => (g, 0)) ++ [.int .i64 (l0.gate + (j : Int) + 1), .int .i64 0]) → (v1.ownBlock = u9.ownBlock ∨ v1.ownBlock = some (wr.alloc o).heap.size) →
              GpMem w l0.gate l0.rank (j + 1) j v1 u10 w1) := fun o v1 w1 h1 h2 h3 => HM.out.place o h1 h2 h3
          obtain ⟨i0, hi, hz0, hz1, hz2⟩ := info_parts infoPlace
          obtain ⟨k0, ki, kz0, kz1, kz2⟩ := info_parts infoInt'
          clear hm
          go_wp2_with (first
            | (at_builtin; refine wpList_append_own_at _ rfl _ _ 43 rfl w.heap.size 69 i0 (.agg #[.int .i64 0, .int .i64 0]) 2 16 Tryd.underlying43 hi hz0 hz1 hz2 rfl (by decide) u9 (j + 1) _ rfl (HPW.out _) ⟨wr.heap.size, 0, none⟩ 1 1 [.int .i64 (l0.gate + (j : Int) + 1), .int .i64 0] rfl rfl (cells_new _ _ _) (by intro u hu; simp only [List.mem_cons, List.not_mem_nil, or_false] at hu; rcases hu with rfl | rfl <;> rfl) (by unfold maxLen; omega) (by omega) (by simp; omega) ?_; intro v1 w1 hown1 hgr1 hnil1 hloc1; have H1 := Lib.hid (HPL.out _ _ _ hgr1 hown1 hloc1); have hb2 := H1.out.2.2.2.size; have HZW : Hid (∀ o, (w1.alloc o).ownsRow w.heap.size 3 1 u10 j ((upFrom l0.gate j).map (Value.int .i64))) := (by intro o; have h1 := ownsRow_below H1.out.2.1 ((Below.refl _ _).alloc (Nat.le_refl _) o); rw [upFrom_len] at h1; exact h1); clear hown1 hgr1 hnil1 hloc1)
            | (at_builtin; refine wpList_append_own_at _ rfl _ _ 28 rfl w.heap.size 3 k0 (.int .i64 0) 1 8 Tryd.underlying28 ki kz0 kz1 kz2 rfl (by decide) u10 j _ rfl (HZW.out _) ⟨w1.heap.size, 0, none⟩ 1 1 [.int .i64 (l0.gate + (j : Int) + 1)] rfl rfl (cell_one_new _ _ _) (by intro u hu; rw [List.mem_singleton] at hu; subst hu; rfl) (by unfold maxLen; omega) (by omega) (by simp; omega) ?_; intro v2 w2 hown2 hgr2 hnil2 hloc2; have H2 := Lib.hid (H1.out.finger _ hgr2 hown2 hloc2); clear hown2 hgr2 hnil2 hloc2))
          go_roundw
          case rel =>
            have hrr : GpRel w l0.gate l0.rank K v1 v2 (.int .i64 (l0.gate + (j : Int) + 1 + 1)) w2 := ⟨j + 1, by omega, by congr 1; omega, H2.out⟩
            first | exact hrr | ((repeat (apply Exists.intro)); exact And.intro hrr rfl)
          case measure => simp [intOf]; omega
        · have hjk : j = K := by omega
          subst hjk
          have hle : ¬ l0.gate + (j : Int) + 1 ≤ f := by have := HKK.out; omega
          go_wp2_with fail
          go_ret2
          refine ⟨_, _, rfl, ?_, ?_, HM.out.2.2.2⟩
          · have h1 := HM.out.1
            unfold gapPlaces gapFingers
            rw [HFR.out, HTO.out]
            show OwnP _ _ _ ((l0.gate, l0.rank) :: (upFrom l0.gate (f - l0.gate).toNat).map fun g => (g, 0))
            rw [HKK.out]
            exact h1
          · have h1 := HM.out.2.1
            unfold gapFingers
            rw [HFR.out, HTO.out]
            show OwnZ _ _ _ (upFrom l0.gate (f - l0.gate).toNat)
            rw [HKK.out]
            exact h1

end Go.Proofs.YtbbpockkafbfmaaDoor

/-
  The walks of slices.Reverse at []int and []Place, over what the call owns.
-/
namespace Go.Proofs.YtbbpockkafbfmaaDoor
open Go.RowKit

/-- A list of which the first k elements and the last k have been exchanged. -/
def RevAt {α : Type} (xs ys : List α) (n k : Nat) : Prop := xs.length = n ∧ ys.length = n ∧ ∀ p, p < n → ys[p]? = if p < k ∨ n - 1 - p < k then xs[n - 1 - p]? else xs[p]?
theorem RevAt.start {α : Type} (xs : List α) {n : Nat} (h : xs.length = n) : RevAt xs xs n 0 := ⟨h, h, fun p _ => by rw [if_neg (by omega)]⟩
theorem RevAt.step {α : Type} {xs ys : List α} {n k : Nat} (h : RevAt xs ys n k) {q : Nat} (hq : q + k + 1 = n) (hk : k < q) {a b : α} (ha : ys[k]? = some a) (hb : ys[q]? = some b) : RevAt xs ((ys.set k b).set q a) n (k + 1) := by
  obtain ⟨h1, h2, h3⟩ := h
  refine ⟨h1, by simp [h2], fun p hp => ?_⟩
  have ha' := h3 k (by omega)
  have hb' := h3 q (by omega)
  rw [if_neg (by omega), ha] at ha'
  rw [if_neg (by omega), hb] at hb'
  rw [List.getElem?_set, List.getElem?_set]
  by_cases e1 : q = p
  · subst e1
    rw [if_pos rfl, if_pos (by simp [h2]; omega), if_pos (by omega), show n - 1 - q = k by omega, ← ha']
  · rw [if_neg e1]
    by_cases e2 : k = p
    · subst e2
      rw [if_pos rfl, if_pos (by omega), if_pos (by omega), show n - 1 - k = q by omega, ← hb']
    · rw [if_neg e2, h3 p hp]
      by_cases c : p < k ∨ n - 1 - p < k
      · rw [if_pos c, if_pos (by omega)]
      · rw [if_neg c, if_neg (by omega)]
theorem RevAt.done {α : Type} {xs ys : List α} {n k : Nat} (h : RevAt xs ys n k) (hk : n ≤ 2 * k + 1) : ys = xs.reverse := by
  obtain ⟨h1, h2, h3⟩ := h
  apply List.ext_getElem?
  intro p
  by_cases hp : p < n
  · rw [h3 p hp, List.getElem?_reverse (by omega), h1]
    by_cases c : p < k ∨ n - 1 - p < k
    · rw [if_pos c]
    · rw [if_neg c, show n - 1 - p = p by omega]
  · rw [List.getElem?_eq_none (by omega), List.getElem?_eq_none (by simp; omega)]

section
variable {w : World} {B g n c sz : Nat} {T : TypeId} {xs : List Value}
theorem ownsRow_cell (h : w.ownsRow B T sz (.slice (some ⟨g, 0, none⟩) n c) n xs) {o : Nat} {x : Value} (hx : xs[o]? = some x) : w.cell? ⟨g, o, none⟩ = some x ∧ w.frozen? ⟨g, o, none⟩ = false ∧ B ≤ g ∧ g < w.heap.size := by
  have hc := h.cells (g := g) rfl o x hx
  rw [Go.WideShapes.add_plain, Nat.zero_add] at hc
  refine ⟨hc, ?_, (h.lt g rfl).1, (h.lt g rfl).2⟩
  rcases h.2 with ⟨hv, h0⟩ | ⟨g', cap, cur, hv, hg, hh, _⟩
  · cases hv
  · injection hv with e1
    injection e1 with e1
    injection e1 with e1
    subst e1
    simp [World.frozen?, hh]
theorem ownsRow_set (h : w.ownsRow B T sz (.slice (some ⟨g, 0, none⟩) n c) n xs) (o : Nat) (x : Value) : (w.setCell ⟨g, o, none⟩ x).ownsRow B T sz (.slice (some ⟨g, 0, none⟩) n c) n (xs.set o x) := by
  rcases h.2 with ⟨hv, h0⟩ | ⟨g', cap, cur, hv, hg, hh, hc, hm, hs, ht⟩
  · cases hv
  · injection hv with e1 e2 e3
    injection e1 with e1
    injection e1 with e1
    subst e1; subst e3
    refine ⟨by rw [List.length_set]; exact h.1, .inr ⟨g, c, cur.setIfInBounds o x, rfl, hg, ?_, hc, hm, by simpa using hs, ?_⟩⟩
    · simp [World.setCell, Array.getElem?_modify, hh]
    · rw [Array.toList_setIfInBounds, List.take_set, ht]
end
theorem placeVs_at {ps : List (Int × Int)} : ∀ {k : Nat} {a b : Int}, ps[k]? = some (a, b) → (placeVs ps)[k * 2]? = some (.int .i64 a) ∧ (placeVs ps)[k * 2 + 1]? = some (.int .i64 b) := by
  induction ps with
  | nil => intro k a b h; cases h
  | cons p ps ih =>
    intro k a b h
    cases k with
    | zero =>
      simp only [List.getElem?_cons_zero, Option.some.injEq] at h
      subst h
      exact ⟨rfl, rfl⟩
    | succ k =>
      have := ih (k := k) (a := a) (b := b) (by simpa using h)
      rw [show (k + 1) * 2 = k * 2 + 2 by omega]
      exact this
theorem placeVs_set {ps : List (Int × Int)} : ∀ {k : Nat} {a b : Int}, k < ps.length → ((placeVs ps).set (k * 2) (.int .i64 a)).set (k * 2 + 1) (.int .i64 b) = placeVs (ps.set k (a, b)) := by
  induction ps with
  | nil => intro k a b h; cases h
  | cons p ps ih =>
    intro k a b h
    cases k with
    | zero => rfl
    | succ k =>
      have := ih (k := k) (a := a) (b := b) (by simpa using h)
      rw [show (k + 1) * 2 = k * 2 + 2 by omega, List.set_cons_succ]
      show Value.int .i64 p.1 :: Value.int .i64 p.2 :: _ = _
      unfold placeVs at this ⊢
      rw [List.flatMap_cons, ← this]
      rfl
theorem placeVs_len (ps : List (Int × Int)) : (placeVs ps).length = ps.length * 2 := by
  unfold placeVs
  induction ps with
  | nil => rfl
  | cons p ps ih => rw [List.flatMap_cons, List.length_append, ih, List.length_cons]; simp; omega

def RvRel (w : World) (B g c : Nat) (xs : List Int) (n : Nat) (iv jv : Value) (wr : World) : Prop :=
  ∃ (k : Nat) (ys : List Int), 2 * k ≤ n + 1 ∧ iv = .int .i64 (k : Int) ∧ jv = .int .i64 ((n : Int) - 1 - k) ∧ RevAt xs ys n k ∧ OwnZ wr B (.slice (some ⟨g, 0, none⟩) n c) ys ∧ Keep g w wr

set_option maxHeartbeats 2000000 in
theorem reverseZ_calls (w : World) (B g n c : Nat) (xs : List Int) (hl : xs.length = n) (h : OwnZ w B (.slice (some ⟨g, 0, none⟩) n c) xs) (hn : n ≤ 100000) :
    Calls Tryd.prog 111 #[.slice (some ⟨g, 0, none⟩) n c] w fun e w' => e = .returned (.tuple #[]) ∧ OwnZ w' B (.slice (some ⟨g, 0, none⟩) n c) xs.reverse ∧ Keep g w w' := by
  have H := Lib.hid h
  have HLL := Lib.hid hl
  clear h hl
  go_enter Tryd.func111, Tryd.ntmps111
  go_wp2_with fail
  go_loopw [2, 3] (fun iv jv wr => RvRel w B g c xs n iv jv wr) (fun iv _ _ => n - (intOf iv).toNat)
  case atStart => exact ⟨0, xs, by omega, rfl, by congr 1; omega, RevAt.start xs HLL.out, H.out, Below.refl _ _, fun _ _ _ => rfl⟩
  case round =>
    obtain ⟨k, ys, hk, rfl, rfl, hrev, hown, hkeep⟩ := hrel
    have HREV := Lib.hid hrev
    have HOWN := Lib.hid hown
    have HKE := Lib.hid hkeep
    have hsz := hkeep.1.size
    clear hrev hown hkeep
    by_cases hlt : 2 * k + 1 < n
    · obtain ⟨q, hq⟩ := Int.eq_ofNat_of_zero_le (show 0 ≤ (n : Int) - 1 - k by omega)
      have hqn : q + k + 1 = n := by omega
      have hyl : ys.length = n := HREV.out.2.1
      have hkl : k < ys.length := by omega
      have hql : q < ys.length := by omega
      have ha : ys[k]? = some ys[k] := List.getElem?_eq_getElem hkl
      have hb : ys[q]? = some ys[q] := List.getElem?_eq_getElem hql
      have HO : Hid (wr.ownsRow B 3 1 (.slice (some ⟨g, 0, none⟩) n c) n (ys.map (Value.int .i64))) := by
        have h1 := HOWN.out
        unfold OwnZ at h1
        rw [hyl] at h1
        exact h1
      obtain ⟨a, haa⟩ : ∃ a, ys[k] = a := ⟨_, rfl⟩
      obtain ⟨b, hbb⟩ : ∃ b, ys[q] = b := ⟨_, rfl⟩
      rw [haa] at ha
      rw [hbb] at hb
      have HST := Lib.hid (HREV.out.step hqn (by omega) ha hb)
      obtain ⟨m1, m2, _, m3⟩ := ownsRow_cell HO.out (o := k) (x := .int .i64 a) (by rw [List.getElem?_map, ha]; rfl)
      obtain ⟨m4, m5, _, _⟩ := ownsRow_cell HO.out (o := q) (x := .int .i64 b) (by rw [List.getElem?_map, hb]; rfl)
      have hi1 : (k : Int) < n := by omega
      have hi2 : (q : Int) < n := by omega
      have hi3 : (k : Int) < (q : Int) := by omega
      have hne : ¬ k = q := by omega
      have HREL : Hid (RvRel w B g c xs n (.int .i64 ((k : Int) + 1)) (.int .i64 ((q : Int) - 1)) ((wr.setCell ⟨g, k, none⟩ (.int .i64 b)).setCell ⟨g, q, none⟩ (.int .i64 a)).drew) := by
        refine ⟨k + 1, _, by omega, by rw [Int.natCast_add]; rfl, by congr 1; omega, HST.out, ?_, (((HKE.out.1).setCell (p := ⟨g, k, none⟩) (Nat.le_refl _) _).setCell (p := ⟨g, q, none⟩) (Nat.le_refl _) _).drew, fun x h1 h2 => ?_⟩
        · have h1 := ownsRow_set (ownsRow_set (w := wr) HO.out k (.int .i64 b)) q (.int .i64 a)
          rw [← List.map_set, ← List.map_set] at h1
          unfold OwnZ
          rw [List.length_set, List.length_set, hyl]
          exact h1
        · exact (Below.heap_setCell _ _ _ x h2).trans ((Below.heap_setCell _ _ _ x h2).trans (HKE.out.2 x h1 h2))
      clear ha hb haa hbb hkl hql hyl
      go_wp2_with fail
      go_region
      go_wp2_with fail
      go_roundw
      case rel => exact HREL.out
      case measure => simp [intOf]; omega
    · have hge : ¬ (k : Int) < (n : Int) - 1 - k := by omega
      go_wp2_with fail
      go_end0
      have he := HREV.out.done (by omega)
      rw [← he]
      exact ⟨rfl, HOWN.out, HKE.out⟩

def RvRelP (w : World) (B g c : Nat) (xs : List (Int × Int)) (n : Nat) (iv jv : Value) (wr : World) : Prop :=
  ∃ (k : Nat) (ys : List (Int × Int)), 2 * k ≤ n + 1 ∧ iv = .int .i64 (k : Int) ∧ jv = .int .i64 ((n : Int) - 1 - k) ∧ RevAt xs ys n k ∧ OwnP wr B (.slice (some ⟨g, 0, none⟩) n c) ys ∧ Keep g w wr

set_option maxHeartbeats 2000000 in
theorem reverseP_calls (w : World) (B g n c : Nat) (xs : List (Int × Int)) (hl : xs.length = n) (h : OwnP w B (.slice (some ⟨g, 0, none⟩) n c) xs) (hn : n ≤ 100000) :
    Calls Tryd.prog 110 #[.slice (some ⟨g, 0, none⟩) n c] w fun e w' => e = .returned (.tuple #[]) ∧ OwnP w' B (.slice (some ⟨g, 0, none⟩) n c) xs.reverse ∧ Keep g w w' := by
  have H := Lib.hid h
  have HLL := Lib.hid hl
  clear h hl
  go_enter Tryd.func110, Tryd.ntmps110
  go_wp2_with fail
  go_loopw [2, 3] (fun iv jv wr => RvRelP w B g c xs n iv jv wr) (fun iv _ _ => n - (intOf iv).toNat)
  case atStart => exact ⟨0, xs, by omega, rfl, by congr 1; omega, RevAt.start xs HLL.out, H.out, Below.refl _ _, fun _ _ _ => rfl⟩
  case round =>
    obtain ⟨k, ys, hk, rfl, rfl, hrev, hown, hkeep⟩ := hrel
    have HREV := Lib.hid hrev
    have HOWN := Lib.hid hown
    have HKE := Lib.hid hkeep
    have hsz := hkeep.1.size
    clear hrev hown hkeep
    by_cases hlt : 2 * k + 1 < n
    · obtain ⟨q, hq⟩ := Int.eq_ofNat_of_zero_le (show 0 ≤ (n : Int) - 1 - k by omega)
      have hqn : q + k + 1 = n := by omega
      have hyl : ys.length = n := HREV.out.2.1
      have hkl : k < ys.length := by omega
      have hql : q < ys.length := by omega
      have ha : ys[k]? = some ys[k] := List.getElem?_eq_getElem hkl
      have hb : ys[q]? = some ys[q] := List.getElem?_eq_getElem hql
      have HO : Hid (wr.ownsRow B 69 2 (.slice (some ⟨g, 0, none⟩) n c) n (placeVs ys)) := by
        have h1 := HOWN.out
        unfold OwnP at h1
        rw [hyl] at h1
        exact h1
      obtain ⟨a, haa⟩ : ∃ a, ys[k] = a := ⟨_, rfl⟩
      obtain ⟨b, hbb⟩ : ∃ b, ys[q] = b := ⟨_, rfl⟩
      rw [haa] at ha
      rw [hbb] at hb
      have HST := Lib.hid (HREV.out.step hqn (by omega) ha hb)
      obtain ⟨a1, a2⟩ := a
      obtain ⟨b1, b2⟩ := b
      obtain ⟨m1, m2, _, m3⟩ := ownsRow_cell HO.out (placeVs_at ha).1
      obtain ⟨m4, m5, _, _⟩ := ownsRow_cell HO.out (placeVs_at ha).2
      obtain ⟨m6, m7, _, _⟩ := ownsRow_cell HO.out (placeVs_at hb).1
      obtain ⟨m8, m9, _, _⟩ := ownsRow_cell HO.out (placeVs_at hb).2
      have ne1 : ¬ k * 2 = q * 2 := by omega
      have ne2 : ¬ k * 2 = q * 2 + 1 := by omega
      have ne3 : ¬ k * 2 + 1 = q * 2 := by omega
      have hi1 : (k : Int) < n := by omega
      have hi2 : (q : Int) < n := by omega
      have hi3 : (k : Int) < (q : Int) := by omega
      have hne : ¬ k = q := by omega
      have HREL : Hid (RvRelP w B g c xs n (.int .i64 ((k : Int) + 1)) (.int .i64 ((q : Int) - 1)) ((((wr.setCell ⟨g, k * 2, none⟩ (.int .i64 b1)).setCell ⟨g, k * 2 + 1, none⟩ (.int .i64 b2)).setCell ⟨g, q * 2, none⟩ (.int .i64 a1)).setCell ⟨g, q * 2 + 1, none⟩ (.int .i64 a2)).drew) := by
        refine ⟨k + 1, _, by omega, by rw [Int.natCast_add]; rfl, by congr 1; omega, HST.out, ?_, (((((HKE.out.1).setCell (p := ⟨g, k * 2, none⟩) (Nat.le_refl _) _).setCell (p := ⟨g, k * 2 + 1, none⟩) (Nat.le_refl _) _).setCell (p := ⟨g, q * 2, none⟩) (Nat.le_refl _) _).setCell (p := ⟨g, q * 2 + 1, none⟩) (Nat.le_refl _) _).drew, fun x h1 h2 => ?_⟩
        · have h1 := ownsRow_set (ownsRow_set (ownsRow_set (ownsRow_set (w := wr) HO.out (k * 2) (.int .i64 b1)) (k * 2 + 1) (.int .i64 b2)) (q * 2) (.int .i64 a1)) (q * 2 + 1) (.int .i64 a2)
          rw [placeVs_set (by omega), placeVs_set (by simp; omega)] at h1
          unfold OwnP
          rw [List.length_set, List.length_set, hyl]
          exact h1
        · exact (Below.heap_setCell _ _ _ x h2).trans ((Below.heap_setCell _ _ _ x h2).trans ((Below.heap_setCell _ _ _ x h2).trans ((Below.heap_setCell _ _ _ x h2).trans (HKE.out.2 x h1 h2))))
      clear ha hb haa hbb hkl hql hyl
      go_wp2_with fail
      go_region
      go_wp2_with fail
      go_roundw
      case rel => exact HREL.out
      case measure => simp [intOf]; omega
    · have hge : ¬ (k : Int) < (n : Int) - 1 - k := by omega
      go_wp2_with fail
      go_end0
      have he := HREV.out.done (by omega)
      rw [← he]
      exact ⟨rfl, HOWN.out, HKE.out⟩

end Go.Proofs.YtbbpockkafbfmaaDoor
