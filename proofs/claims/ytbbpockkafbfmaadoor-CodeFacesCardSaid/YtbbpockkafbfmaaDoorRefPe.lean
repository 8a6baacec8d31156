/-
  RefSp RefPc RefPd RefPe, one after the other.
-/
import Derived.Test.YtbbpockkafbfmaaDoorFaces
import Derived.Test.YtbbpockkafbfmaaDoorLet3
import Derived.Deep.RegionHeld3
import Derived.Test.YtbbpockkafbfmaaDoorRefU
import Derived.Test.YtbbpockkafbfmaaDoorFcR

/-
  The reference's span, turned, piece (for CodeFaces).
-/
namespace Go.Proofs.YtbbpockkafbfmaaDoor
open Go.RowKit

set_option maxHeartbeats 4000000 in
set_option maxRecDepth 100000 in
theorem span_calls (fg fr tg : Int) (w : World) (h0 : 0 ≤ fg) (h1 : fg ≤ tg) (h2 : tg ≤ 40) :
    Calls Tryd.prog 88 #[.int .i64 fg, .int .i64 fr, .int .i64 tg] w fun e w' => ∃ vp vf, e = .returned (.tuple #[vp, vf]) ∧
      OwnP w' w.heap.size vp ((fg, fr) :: (upFrom fg (tg - fg).toNat).map fun g => (g, 0)) ∧ OwnZ w' w.heap.size vf (upFrom fg (tg - fg).toNat) ∧ Below w.heap.size w w' := by
  obtain ⟨K, hK⟩ : ∃ K, (tg - fg).toNat = K := ⟨_, rfl⟩
  have hK40 : K ≤ 40 := by omega
  have HKK := Lib.hid hK
  rw [hK]
  clear hK
  go_enter Tryd.func88, Tryd.ntmps88
  go_wp2_with fail
  obtain ⟨W1, hW1⟩ : ∃ W1, W1 = w.alloc (.cells #[.int .i64 fg, .int .i64 fr] 69) := ⟨_, rfl⟩
  obtain ⟨B1, hB1⟩ : ∃ B1, B1 = w.heap.size := ⟨_, rfl⟩
  have HB1 : Hid (Below w.heap.size w W1) := by rw [hW1]; exact (Below.refl _ _).alloc (Nat.le_refl _) _
  have HO1 : Hid (OwnP W1 w.heap.size (.slice (some ⟨B1, 0, none⟩) 1 1) [(fg, fr)]) := by rw [hW1]; exact OwnP.lit w _ fg fr _ hB1 (Nat.le_refl _)
  rw [← hW1, ← hB1]
  clear hW1 hB1
  have HST : Hid (GpRel w fg fr K (.slice (some ⟨B1, 0, none⟩) 1 1) (.slice none 0 0) (.int .i64 (fg + 1)) W1) := by
    refine ⟨0, Nat.zero_le _, by simp, ?_, World.ownsRow_nil _ _ _ _, by simp [Value.ownBlock], HB1.out⟩
    exact HO1.out
  go_loopw [8, 9, 10] (fun vp vf gv wr => GpRel w fg fr K vp vf gv wr) (fun _ _ gv _ => (tg + 1 - intOf gv).toNat)
  case atStart => exact HST.out
  case round =>
    obtain ⟨j, hj, rfl, hm⟩ := hrel
    have HM := Lib.hid hm
    by_cases hlt : j < K
    · have hle : fg + (j : Int) + 1 ≤ tg := by have := HKK.out; omega
      have hb1 := hm.2.2.2.size
      have HPW : Hid (∀ o, (wr.alloc o).ownsRow w.heap.size 69 2 u8 (j + 1) (placeVs ((fg, fr) :: (upFrom fg j).map fun g => (g, 0)))) := by
        intro o
        have h1 := ownsRow_below hm.1 ((Below.refl _ _).alloc (Nat.le_refl _) o)
        have e : ((fg, fr) :: (upFrom fg j).map fun g => (g, (0 : Int))).length = j + 1 := by simp [upFrom_len]
        rw [e] at h1
        exact h1
      have HPL : Hid (∀ o v1 w1, (wr.alloc o).grownBy w1 u8.ownBlock → w1.ownsRow w.heap.size 69 2 v1 (j + 1 + 1) (placeVs ((fg, fr) :: (upFrom fg j).map fun g => (g, 0)) ++ [.int .i64 (fg + (j : Int) + 1), .int .i64 0]) → (v1.ownBlock = u8.ownBlock ∨ v1.ownBlock = some (wr.alloc o).heap.size) →
          GpMem w fg fr (j + 1) j v1 u9 w1) := fun o v1 w1 h1 h2 h3 => HM.out.place o h1 h2 h3
      obtain ⟨i0, hi, hz0, hz1, hz2⟩ := info_parts infoPlace
      obtain ⟨k0, ki, kz0, kz1, kz2⟩ := info_parts infoInt'
      clear hm
      go_wp2_with (first
        | (at_builtin; refine wpList_append_own_at _ rfl _ _ 43 rfl w.heap.size 69 i0 (.agg #[.int .i64 0, .int .i64 0]) 2 16 Tryd.underlying43 hi hz0 hz1 hz2 rfl (by decide) u8 (j + 1) _ rfl (HPW.out _) ⟨wr.heap.size, 0, none⟩ 1 1 [.int .i64 (fg + (j : Int) + 1), .int .i64 0] rfl rfl (cells_new _ _ _) (by intro u hu; simp only [List.mem_cons, List.not_mem_nil, or_false] at hu; rcases hu with rfl | rfl <;> rfl) (by unfold maxLen; omega) (by omega) (by simp; omega) ?_; intro v1 w1 hown1 hgr1 hnil1 hloc1; have H1 := Lib.hid (HPL.out _ _ _ hgr1 hown1 hloc1); have hb2 := H1.out.2.2.2.size; have HZW : Hid (∀ o, (w1.alloc o).ownsRow w.heap.size 3 1 u9 j ((upFrom fg j).map (Value.int .i64))) := (by intro o; have h1 := ownsRow_below H1.out.2.1 ((Below.refl _ _).alloc (Nat.le_refl _) o); rw [upFrom_len] at h1; exact h1); clear hown1 hgr1 hnil1 hloc1)
        | (at_builtin; refine wpList_append_own_at _ rfl _ _ 28 rfl w.heap.size 3 k0 (.int .i64 0) 1 8 Tryd.underlying28 ki kz0 kz1 kz2 rfl (by decide) u9 j _ rfl (HZW.out _) ⟨w1.heap.size, 0, none⟩ 1 1 [.int .i64 (fg + (j : Int) + 1)] rfl rfl (cell_one_new _ _ _) (by intro u hu; rw [List.mem_singleton] at hu; subst hu; rfl) (by unfold maxLen; omega) (by omega) (by simp; omega) ?_; intro v2 w2 hown2 hgr2 hnil2 hloc2; have H2 := Lib.hid (H1.out.finger _ hgr2 hown2 hloc2); clear hown2 hgr2 hnil2 hloc2))
      go_roundw
      case rel =>
        have hrr : GpRel w fg fr K v1 v2 (.int .i64 (fg + (j : Int) + 1 + 1)) w2 := ⟨j + 1, by omega, by congr 1; omega, H2.out⟩
        first | exact hrr | ((repeat (apply Exists.intro)); exact And.intro hrr rfl)
      case measure => simp [intOf]; omega
    · have hjk : j = K := by omega
      subst hjk
      have hle : ¬ fg + (j : Int) + 1 ≤ tg := by have := HKK.out; omega
      go_wp2_with fail
      go_ret2
      exact ⟨_, _, rfl, HM.out.1, HM.out.2.1, HM.out.2.2.2⟩

/-! ## Places the other way round -/
def TuRel (ps : List (Int × Int)) (n : Nat) (w : World) (v i : Value) (wr : World) : Prop :=
  ∃ k : Nat, k ≤ n ∧ i = .int .i64 ((k : Int) - 1) ∧ OwnP wr w.heap.size v (ps.drop k).reverse ∧ Below w.heap.size w wr
/-- Places read in a slice. -/
def SP (w : World) (A : Option Addr) (n : Nat) (ps : List (Int × Int)) : Prop :=
  ps.length = n ∧ ∀ (k : Nat) (p : Int × Int), ps[k]? = some p → ∃ b off, A = some ⟨b, off, none⟩ ∧ b < w.heap.size ∧ w.cell? ⟨b, off + k * 2, none⟩ = some (.int .i64 p.1) ∧ w.cell? ⟨b, off + k * 2 + 1, none⟩ = some (.int .i64 p.2)
theorem SP.below {w w' : World} {A : Option Addr} {n : Nat} {ps : List (Int × Int)} (h : SP w A n ps) (hb : Below w.heap.size w w') : SP w' A n ps :=
  ⟨h.1, fun k p hk => by
    obtain ⟨b, off, e, hlt, c0, c1⟩ := h.2 k p hk
    exact ⟨b, off, e, Nat.lt_of_lt_of_le hlt hb.size, (hb.cell (p := ⟨b, off + k * 2, none⟩) hlt).trans c0, (hb.cell (p := ⟨b, off + k * 2 + 1, none⟩) hlt).trans c1⟩⟩
theorem place_at : ∀ {ps : List (Int × Int)} {k : Nat} {p : Int × Int}, ps[k]? = some p → (placeVs ps)[k * 2]? = some (.int .i64 p.1) ∧ (placeVs ps)[k * 2 + 1]? = some (.int .i64 p.2)
  | [], k, p, h => by simp at h
  | a :: ps, 0, p, h => by
    rw [List.getElem?_cons_zero] at h
    injection h with h
    subst h
    exact ⟨rfl, rfl⟩
  | a :: ps, k + 1, p, h => by
    have h1 := place_at (ps := ps) (k := k) (p := p) (by simpa using h)
    have e : placeVs (a :: ps) = .int .i64 a.1 :: .int .i64 a.2 :: placeVs ps := rfl
    rw [e, show (k + 1) * 2 = k * 2 + 1 + 1 by omega, List.getElem?_cons_succ, List.getElem?_cons_succ, List.getElem?_cons_succ, List.getElem?_cons_succ]
    exact h1
theorem OwnP.sp {w : World} {B n c : Nat} {A : Option Addr} {ps : List (Int × Int)} (h : OwnP w B (.slice A n c) ps) : SP w A n ps := by
  rcases h.2 with ⟨hv, h0⟩ | ⟨g, cap, cur, hv, hg, hh, _⟩
  · injection hv with _ e
    subst e
    exact ⟨h0, fun k p hk => by have := (List.getElem?_eq_some_iff.1 hk).1; omega⟩
  · injection hv with e1 e2
    subst e1
    subst e2
    refine ⟨rfl, fun k p hk => ?_⟩
    obtain ⟨p0, p1⟩ := place_at hk
    refine ⟨g, 0, rfl, (World.ownsRow.lt h g rfl).2, ?_, ?_⟩
    · rw [Nat.zero_add]; exact (ownsRow_cell h p0).1
    · rw [Nat.zero_add]; exact (ownsRow_cell h p1).1

set_option maxHeartbeats 4000000 in
set_option maxRecDepth 100000 in
theorem turned_calls (A : Option Addr) (n cap : Nat) (ps : List (Int × Int)) (w : World) (h : SP w A n ps) (hn : n ≤ 1000) :
    Calls Tryd.prog 48 #[.slice A n cap] w fun e w' => ∃ v, e = .returned v ∧ OwnP w' w.heap.size v ps.reverse ∧ Below w.heap.size w w' := by
  have HL := Lib.hid h.1
  go_enter Tryd.func48, Tryd.ntmps48
  go_wp2_with fail
  go_loopw [3, 4] (fun v i wr => TuRel ps n w v i wr) (fun _ i _ => (intOf i + 1).toNat)
  case atStart => exact ⟨n, Nat.le_refl _, rfl, by rw [List.drop_of_length_le (by rw [HL.out]; omega)]; exact World.ownsRow_nil _ _ _ _, Below.refl _ _⟩
  case round =>
    obtain ⟨k, hk, rfl, hown, hb⟩ := hrel
    have HOWN := Lib.hid hown
    have HB := Lib.hid hb
    have hws := hb.size
    clear hown
    cases k with
    | zero =>
      have hneg : ((0 : Nat) : Int) - 1 < 0 := by omega
      go_wp2_with fail
      go_ret
      exact ⟨_, rfl, HOWN.out, HB.out⟩
    | succ k =>
      have ek : ((k + 1 : Nat) : Int) - 1 = (k : Int) := by omega
      rw [ek]
      obtain ⟨x, hx⟩ : ∃ x, ps[k]? = some x := ⟨_, List.getElem?_eq_getElem (by rw [HL.out]; omega)⟩
      obtain ⟨b, off, rfl, hbw, c0, c1⟩ := (h.below hb).2 k x hx
      have hlen : (ps.drop (k + 1)).reverse.length = n - (k + 1) := by rw [List.length_reverse, List.length_drop, HL.out]
      obtain ⟨q, hq⟩ : ∃ q, n - (k + 1) = q := ⟨_, rfl⟩
      rw [hq] at hlen
      have hq1 : q ≤ 1000 := by omega
      have HROW : Hid (∀ o, (wr.alloc o).ownsRow w.heap.size 69 2 u3 q (placeVs (ps.drop (k + 1)).reverse)) := by
        intro o
        have h1 := ownsRow_below HOWN.out ((Below.refl _ _).alloc (Nat.le_refl _) o)
        rw [hlen] at h1
        exact h1
      have HSTEP : Hid (∀ o v1 w1, (wr.alloc o).grownBy w1 u3.ownBlock → w1.ownsRow w.heap.size 69 2 v1 (q + 1) (placeVs (ps.drop (k + 1)).reverse ++ [.int .i64 x.1, .int .i64 x.2]) → OwnP w1 w.heap.size v1 (ps.drop k).reverse ∧ Below w.heap.size w w1) := by
        intro o v1 w1 hg ho
        refine ⟨?_, (HB.out.alloc HB.out.size o).grown hg (by have := HB.out.size; simp; omega) (fun k hk => (World.ownsRow.lt (HROW.out o) k hk).1)⟩
        have e : (ps.drop k).reverse = (ps.drop (k + 1)).reverse ++ [x] := by
          rw [List.drop_eq_getElem_cons (List.getElem?_eq_some_iff.1 hx).1, (List.getElem?_eq_some_iff.1 hx).2, List.reverse_cons]
        unfold OwnP
        rw [e, List.length_append, hlen]
        unfold placeVs at ho ⊢
        rw [List.flatMap_append]
        exact ho
      have hkn : (k : Int) < n := by omega
      obtain ⟨x1, x2⟩ := x
      obtain ⟨i0, hi, hz0, hz1, hz2⟩ := info_parts infoPlace
      clear hx ek hlen hq hb
      go_wp2_with (at_builtin; refine wpList_append_own_at _ rfl _ _ 43 rfl w.heap.size 69 i0 (.agg #[.int .i64 0, .int .i64 0]) 2 16 Tryd.underlying43 hi hz0 hz1 hz2 rfl (by decide) u3 q _ rfl (HROW.out _) ⟨wr.heap.size, 0, none⟩ 1 1 [.int .i64 x1, .int .i64 x2] rfl rfl (cells_new _ _ _) (by intro u hu; simp only [List.mem_cons, List.not_mem_nil, or_false] at hu; rcases hu with rfl | rfl <;> rfl) (by unfold maxLen; omega) (by omega) (by simp; omega) ?_; intro v1 w1 hown1 hgr1 hnil1 hloc1; have H1 := Lib.hid (HSTEP.out _ _ _ hgr1 hown1); clear hown1 hgr1 hnil1 hloc1)
      go_roundw
      case rel =>
        have hrr : TuRel ps n w v1 (.int .i64 ((k : Int) - 1)) w1 := ⟨k, by omega, rfl, H1.out⟩
        first | exact hrr | ((repeat (apply Exists.intro)); exact And.intro hrr rfl)
      case measure => simp [intOf]

/-! ## Integers the other way round -/
def ReRel (ps : List Int) (n : Nat) (w : World) (v i : Value) (wr : World) : Prop :=
  ∃ k : Nat, k ≤ n ∧ i = .int .i64 ((k : Int) - 1) ∧ OwnZ wr w.heap.size v (ps.drop k).reverse ∧ Below w.heap.size w wr
set_option maxHeartbeats 4000000 in
set_option maxRecDepth 100000 in
theorem revZ_calls (A : Option Addr) (n cap : Nat) (ps : List Int) (w : World) (h : SL w A n ps) (hn : n ≤ 1000) :
    Calls Tryd.prog 49 #[.slice A n cap] w fun e w' => ∃ v, e = .returned v ∧ OwnZ w' w.heap.size v ps.reverse ∧ Below w.heap.size w w' := by
  have HL := Lib.hid h.1
  go_enter Tryd.func49, Tryd.ntmps49
  go_wp2_with fail
  go_loopw [3, 4] (fun v i wr => ReRel ps n w v i wr) (fun _ i _ => (intOf i + 1).toNat)
  case atStart => exact ⟨n, Nat.le_refl _, rfl, by rw [List.drop_of_length_le (by rw [HL.out]; omega)]; exact World.ownsRow_nil _ _ _ _, Below.refl _ _⟩
  case round =>
    obtain ⟨k, hk, rfl, hown, hb⟩ := hrel
    have HOWN := Lib.hid hown
    have HB := Lib.hid hb
    have hws := hb.size
    clear hown
    cases k with
    | zero =>
      have hneg : ((0 : Nat) : Int) - 1 < 0 := by omega
      go_wp2_with fail
      go_ret
      exact ⟨_, rfl, HOWN.out, HB.out⟩
    | succ k =>
      have ek : ((k + 1 : Nat) : Int) - 1 = (k : Int) := by omega
      rw [ek]
      obtain ⟨b, off, x, rfl, hbw, hx, c0⟩ := (h.below hb).at_ (k := k) (by omega)
      have hlen : (ps.drop (k + 1)).reverse.length = n - (k + 1) := by rw [List.length_reverse, List.length_drop, HL.out]
      obtain ⟨q, hq⟩ : ∃ q, n - (k + 1) = q := ⟨_, rfl⟩
      rw [hq] at hlen
      have hq1 : q ≤ 1000 := by omega
      have HROW : Hid (∀ o, (wr.alloc o).ownsRow w.heap.size 3 1 u3 q ((ps.drop (k + 1)).reverse.map (Value.int .i64))) := by
        intro o
        have h1 := ownsRow_below HOWN.out ((Below.refl _ _).alloc (Nat.le_refl _) o)
        rw [hlen] at h1
        exact h1
      have HSTEP : Hid (∀ o v1 w1, (wr.alloc o).grownBy w1 u3.ownBlock → w1.ownsRow w.heap.size 3 1 v1 (q + 1) ((ps.drop (k + 1)).reverse.map (Value.int .i64) ++ [.int .i64 x]) → OwnZ w1 w.heap.size v1 (ps.drop k).reverse ∧ Below w.heap.size w w1) := by
        intro o v1 w1 hg ho
        refine ⟨?_, (HB.out.alloc HB.out.size o).grown hg (by have := HB.out.size; simp; omega) (fun k hk => (World.ownsRow.lt (HROW.out o) k hk).1)⟩
        have e : (ps.drop k).reverse = (ps.drop (k + 1)).reverse ++ [x] := by
          rw [List.drop_eq_getElem_cons (List.getElem?_eq_some_iff.1 hx).1, (List.getElem?_eq_some_iff.1 hx).2, List.reverse_cons]
        unfold OwnZ
        rw [e, List.length_append, hlen, List.map_append]
        exact ho
      have hkn : (k : Int) < n := by omega
      obtain ⟨i0, hi, hz0, hz1, hz2⟩ := info_parts infoInt'
      clear hx ek hlen hq hb
      go_wp2_with (at_builtin; refine wpList_append_own_at _ rfl _ _ 28 rfl w.heap.size 3 i0 (.int .i64 0) 1 8 Tryd.underlying28 hi hz0 hz1 hz2 rfl (by decide) u3 q _ rfl (HROW.out _) ⟨wr.heap.size, 0, none⟩ 1 1 [.int .i64 x] rfl rfl (cell_one_new _ _ _) (by intro u hu; rw [List.mem_singleton] at hu; subst hu; rfl) (by unfold maxLen; omega) (by omega) (by simp; omega) ?_; intro v1 w1 hown1 hgr1 hnil1 hloc1; have H1 := Lib.hid (HSTEP.out _ _ _ hgr1 hown1); clear hown1 hgr1 hnil1 hloc1)
      go_roundw
      case rel =>
        have hrr : ReRel ps n w v1 (.int .i64 ((k : Int) - 1)) w1 := ⟨k, by omega, rfl, H1.out⟩
        first | exact hrr | ((repeat (apply Exists.intro)); exact And.intro hrr rfl)
      case measure => simp [intOf]

end Go.Proofs.YtbbpockkafbfmaaDoor

/-
  The reference's piece of the axis (for CodeFaces).
-/
namespace Go.Proofs.YtbbpockkafbfmaaDoor
open Go.RowKit

theorem two_d (w : World) (a b : Obj) (W : World) (h : W = ((w.alloc a).alloc b).drew) : W.heap[w.heap.size]? = some a ∧ W.heap[w.heap.size + 1]? = some b ∧ Below w.heap.size w W := by
  have s1 : (w.alloc a).heap.size = w.heap.size + 1 := by simp
  have h2 := heap_alloc_new (w.alloc a) b
  have h1 := heap_alloc_new w a
  rw [s1] at h2
  subst h
  refine ⟨?_, h2, (((Below.refl w.heap.size w).alloc (Nat.le_refl _) a).alloc (by simp) b).drew⟩
  have hb : Below (w.alloc a).heap.size (w.alloc a) ((w.alloc a).alloc b) := (Below.refl _ _).alloc (Nat.le_refl _) b
  exact (hb.block _ (by rw [s1]; omega)).trans h1
/-- A letter's six cells. -/
def LtC (w : World) (b o : Nat) (l : Lt) : Prop :=
  w.cell? ⟨b, o, none⟩ = some (.int .i64 l.kind) ∧ w.cell? ⟨b, o + 1, none⟩ = some (.int .i64 l.gate) ∧ w.cell? ⟨b, o + 2, none⟩ = some (.int .i64 l.rank) ∧ w.cell? ⟨b, o + 3, none⟩ = some (.int .i64 l.id) ∧ w.cell? ⟨b, o + 4, none⟩ = some (.int .i64 l.sign) ∧ w.cell? ⟨b, o + 5, none⟩ = some (.bool l.over)
def PcS (P : Nat) (f : Int) (v : Value) (bX o1 o2 a b bL p q : Nat) (lp lq : Lt) (V w' : World) : Prop :=
  w'.cell? ⟨P, 0, none⟩ = some (.int .i64 f) ∧ w'.cell? ⟨P, 1, none⟩ = some v ∧ w'.cell? ⟨bX, o1, none⟩ = some (.int .i64 (a : Int)) ∧ w'.cell? ⟨bX, o2, none⟩ = some (.int .i64 (b : Int)) ∧
  w'.cell? ⟨bL, p, none⟩ = some (.int .i64 lp.kind) ∧ w'.cell? ⟨bL, p + 1, none⟩ = some (.int .i64 lp.gate) ∧ w'.cell? ⟨bL, p + 2, none⟩ = some (.int .i64 lp.rank) ∧ w'.cell? ⟨bL, p + 3, none⟩ = some (.int .i64 lp.id) ∧ w'.cell? ⟨bL, p + 4, none⟩ = some (.int .i64 lp.sign) ∧ w'.cell? ⟨bL, p + 5, none⟩ = some (.bool lp.over) ∧
  w'.cell? ⟨bL, q, none⟩ = some (.int .i64 lq.kind) ∧ w'.cell? ⟨bL, q + 1, none⟩ = some (.int .i64 lq.gate) ∧ w'.cell? ⟨bL, q + 2, none⟩ = some (.int .i64 lq.rank) ∧ w'.cell? ⟨bL, q + 3, none⟩ = some (.int .i64 lq.id) ∧ w'.cell? ⟨bL, q + 4, none⟩ = some (.int .i64 lq.sign) ∧ w'.cell? ⟨bL, q + 5, none⟩ = some (.bool lq.over) ∧ Below V.heap.size V w'
theorem PcS.of {P : Nat} {f : Int} {v : Value} {bX o1 o2 a b bL p q : Nat} {lp lq : Lt} {V w' : World} (hP : P < V.heap.size) (hX : bX < V.heap.size) (hL : bL < V.heap.size) (h : PcS P f v bX o1 o2 a b bL p q lp lq V V) (hw : Below V.heap.size V w') : PcS P f v bX o1 o2 a b bL p q lp lq V w' := by
  have e1 : ∀ o, w'.cell? ⟨P, o, none⟩ = V.cell? ⟨P, o, none⟩ := fun o => hw.cell (p := ⟨P, o, none⟩) hP
  have e2 : ∀ o, w'.cell? ⟨bX, o, none⟩ = V.cell? ⟨bX, o, none⟩ := fun o => hw.cell (p := ⟨bX, o, none⟩) hX
  have e3 : ∀ o, w'.cell? ⟨bL, o, none⟩ = V.cell? ⟨bL, o, none⟩ := fun o => hw.cell (p := ⟨bL, o, none⟩) hL
  unfold PcS at *
  rw [e1, e1, e2, e2, e3, e3, e3, e3, e3, e3, e3, e3, e3, e3, e3, e3]
  obtain ⟨h0, h1, h2, h3, h4, h5, h6, h7, h8, h9, h10, h11, h12, h13, h14, h15, _⟩ := h
  exact ⟨h0, h1, h2, h3, h4, h5, h6, h7, h8, h9, h10, h11, h12, h13, h14, h15, hw⟩
theorem PcS.last {P : Nat} {f : Int} {v : Value} {bX o1 o2 a b bL p q : Nat} {lp lq : Lt} {V w' : World} (h : PcS P f v bX o1 o2 a b bL p q lp lq V w') : Below V.heap.size V w' := h.2.2.2.2.2.2.2.2.2.2.2.2.2.2.2.2

set_option maxHeartbeats 4000000 in
set_option maxRecDepth 100000 in
theorem piece_near (f : Int) (A Ax : Option Addr) (n c m cx j a b : Nat) (ls : List Lt) (ax : List Int) (lp lq : Lt) (w : World) (hL : LS w A n ls) (hX : SL w Ax m ax) (hm : m ≤ 1000) (hj : j + 1 < m)
    (ha : ax[j]? = some (a : Int)) (hb : ax[j + 1]? = some (b : Int)) (hlp : ls[a]? = some lp) (hlq : ls[b]? = some lq) (h0 : 0 ≤ lp.gate) (h1 : lp.gate ≤ lq.gate) (h2 : lq.gate ≤ 40) :
    Calls Tryd.prog 47 #[.agg #[.int .i64 f, .slice A n c], .slice Ax m cx, .int .i64 (j : Int)] w fun e w' => ∃ vp vf, e = .returned (.tuple #[vp, vf]) ∧
      OwnP w' w.heap.size vp ((lp.gate, lp.rank) :: (upFrom lp.gate (lq.gate - lp.gate).toNat).map fun g => (g, 0)) ∧ OwnZ w' w.heap.size vf (upFrom lp.gate (lq.gate - lp.gate).toNat) ∧ Below w.heap.size w w' := by
  have hSP : ∀ W, Below w.heap.size w W → Calls Tryd.prog 88 #[.int .i64 lp.gate, .int .i64 lp.rank, .int .i64 lq.gate] W fun e w' => ∃ vp vf, e = .returned (.tuple #[vp, vf]) ∧
      OwnP w' W.heap.size vp ((lp.gate, lp.rank) :: (upFrom lp.gate (lq.gate - lp.gate).toNat).map fun g => (g, 0)) ∧ OwnZ w' W.heap.size vf (upFrom lp.gate (lq.gate - lp.gate).toNat) ∧ Below W.heap.size W w' := fun W _ => span_calls lp.gate lp.rank lq.gate W h0 h1 h2
  have HSP := Lib.hid hSP
  have hal : a < n := by have := (List.getElem?_eq_some_iff.1 hlp).1; have := hL.1; omega
  have hbl : b < n := by have := (List.getElem?_eq_some_iff.1 hlq).1; have := hL.1; omega
  obtain ⟨bX, oX, x1, rfl, hbX, hx1, cx1⟩ := hX.at_ (k := j) (by omega)
  obtain ⟨b', o', x2, e2, _, hx2, cx2⟩ := hX.at_ (k := j + 1) hj
  injection e2 with e2
  injection e2 with e3 e4
  subst e3 e4
  rw [ha] at hx1
  rw [hb] at hx2
  injection hx1 with hx1
  injection hx2 with hx2
  subst hx1 hx2
  obtain ⟨bL, oL, l1, rfl, hbL, hl1, p0, p1, p2, p3, p4, p5⟩ := hL.at_ hal
  obtain ⟨b', o', l2, e2, _, hl2, q0, q1, q2, q3, q4, q5⟩ := hL.at_ hbl
  injection e2 with e2
  injection e2 with e3 e4
  subst e3 e4
  rw [hlp] at hl1
  rw [hlq] at hl2
  injection hl1 with hl1
  injection hl2 with hl2
  subst hl1 hl2
  have hai : (a : Int) < n := by omega
  have hbi : (b : Int) < n := by omega
  have hji : (j : Int) < m := by omega
  have hjl : (j : Int) < (m : Int) - 1 := by omega
  have hj1 : (j : Int) + 1 < m := by omega
  have hmod : ((j : Int) + 1) % (m : Int) = (j : Int) + 1 := Int.emod_eq_of_lt (by omega) (by omega)
  have htm : ((j : Int) + 1).tmod (m : Int) = (j : Int) + 1 := by rw [Int.tmod_eq_emod_of_nonneg (by omega)]; exact hmod
  have hjw : IntKind.i64.wrap ((j : Int) + 1) = (j : Int) + 1 := wrapI (by omega) (by omega)
  have hjt : ((j : Int) + 1).toNat = j + 1 := by omega
  have hj0 : (0 : Int) ≤ (j : Int) + 1 := by omega
  have hmz : ¬ (m : Int) = 0 := by omega
  have hmz2 : ¬ m = 0 := by omega
  have hmw : IntKind.i64.wrap ((m : Int) - 1) = (m : Int) - 1 := wrapI (by omega) (by omega)
  have hjd : decide ((j : Int) < (m : Int) - 1) = true := decide_eq_true hjl
  have hm0 : ((m : Int) == 0) = false := by rw [beq_eq_false_iff_ne]; omega
  have hm1 : (0 : Int) < m := by omega
  clear ha hb hlp hlq hSP
  go_enter Tryd.func47, Tryd.ntmps47
  go_wp2_with fail
  obtain ⟨V, hV⟩ : ∃ V, V = w.alloc (.cells #[.int .i64 f, .slice (some ⟨bL, oL, none⟩) n c] 33) := ⟨_, rfl⟩
  have hbV : Below w.heap.size w V := by rw [hV]; exact (Below.refl _ _).alloc (Nat.le_refl _) _
  have hPV : V.heap[w.heap.size]? = some (.cells #[.int .i64 f, .slice (some ⟨bL, oL, none⟩) n c] 33 (0, 0)) := by rw [hV]; exact heap_alloc_new w _
  obtain ⟨P, hP⟩ : ∃ P, P = w.heap.size := ⟨_, rfl⟩
  have hPs : P < V.heap.size := by rw [hP, hV]; simp
  have hXs : bX < V.heap.size := Nat.lt_of_lt_of_le hbX hbV.size
  have hLs : bL < V.heap.size := Nat.lt_of_lt_of_le hbL hbV.size
  have HSC : Hid (PcS P f (.slice (some ⟨bL, oL, none⟩) n c) bX (oX + j) (oX + (j + 1)) a b bL (oL + a * 6) (oL + b * 6) lp lq V V) := by
    have e2 : ∀ o, V.cell? ⟨bX, o, none⟩ = w.cell? ⟨bX, o, none⟩ := fun o => hbV.cell (p := ⟨bX, o, none⟩) hbX
    have e3 : ∀ o, V.cell? ⟨bL, o, none⟩ = w.cell? ⟨bL, o, none⟩ := fun o => hbV.cell (p := ⟨bL, o, none⟩) hbL
    unfold PcS
    rw [e2, e2, e3, e3, e3, e3, e3, e3, e3, e3, e3, e3, e3, e3, hP]
    exact ⟨Lib.cell_of_heap hPV 0, Lib.cell_of_heap hPV 1, cx1, cx2, p0, p1, p2, p3, p4, p5, q0, q1, q2, q3, q4, q5, Below.refl _ _⟩
  have HBW := Lib.hid hbV
  rw [← hV, ← hP]
  clear hV hP hPV hbV cx1 cx2 p0 p1 p2 p3 p4 p5 q0 q1 q2 q3 q4 q5
  go_wp2_with fail
  go_region_held3 (fun w' => w'.cell? ⟨P, 0, none⟩ = some (.int .i64 f) ∧ w'.cell? ⟨P, 1, none⟩ = some (.slice (some ⟨bL, oL, none⟩) n c) ∧ w'.cell? ⟨bX, oX + j, none⟩ = some (.int .i64 (a : Int)) ∧ w'.cell? ⟨bX, oX + (j + 1), none⟩ = some (.int .i64 (b : Int)) ∧
      w'.cell? ⟨bL, oL + a * 6, none⟩ = some (.int .i64 lp.kind) ∧ w'.cell? ⟨bL, oL + a * 6 + 1, none⟩ = some (.int .i64 lp.gate) ∧ w'.cell? ⟨bL, oL + a * 6 + 2, none⟩ = some (.int .i64 lp.rank) ∧ w'.cell? ⟨bL, oL + a * 6 + 3, none⟩ = some (.int .i64 lp.id) ∧ w'.cell? ⟨bL, oL + a * 6 + 4, none⟩ = some (.int .i64 lp.sign) ∧ w'.cell? ⟨bL, oL + a * 6 + 5, none⟩ = some (.bool lp.over) ∧
      w'.cell? ⟨bL, oL + b * 6, none⟩ = some (.int .i64 lq.kind) ∧ w'.cell? ⟨bL, oL + b * 6 + 1, none⟩ = some (.int .i64 lq.gate) ∧ w'.cell? ⟨bL, oL + b * 6 + 2, none⟩ = some (.int .i64 lq.rank) ∧ w'.cell? ⟨bL, oL + b * 6 + 3, none⟩ = some (.int .i64 lq.id) ∧ w'.cell? ⟨bL, oL + b * 6 + 4, none⟩ = some (.int .i64 lq.sign) ∧ w'.cell? ⟨bL, oL + b * 6 + 5, none⟩ = some (.bool lq.over) ∧ Below V.heap.size V w')
    (exact PcS.of hPs hXs hLs HSC.out (by repeat (first | exact Below.refl _ _ | refine Below.drew ?_ | refine Below.alloc ?_ (by simp; try omega) _)))
    (fail)
  · obtain ⟨W2, hW2⟩ : ∃ W2, W2 = ((V.alloc (.cells #[.int .i64 lp.kind, .int .i64 lp.gate, .int .i64 lp.rank, .int .i64 lp.id, .int .i64 lp.sign, .bool lp.over] 50)).alloc (.cells #[.int .i64 lq.kind, .int .i64 lq.gate, .int .i64 lq.rank, .int .i64 lq.id, .int .i64 lq.sign, .bool lq.over] 50)).drew := ⟨_, rfl⟩
    obtain ⟨m1, m2, m3⟩ := two_d V _ _ W2 hW2
    have g1 := Lib.cell_of_heap m1 1
    have g2 := Lib.cell_of_heap m1 2
    have g3 := Lib.cell_of_heap m2 1
    have HB2 : Hid (Below w.heap.size w W2) := HBW.out.trans (m3.mono HBW.out.size)
    rw [← hW2]
    clear hW2 m1 m2 m3 HSC
    go_wp2_with (first
      | (go_at_call 88; refine (HSP.out _ HB2.out).mono ?_; rintro e w3 ⟨vp, vf, rfl, o1, o2, hb⟩; have HQ := Lib.hid (And.intro o1 (And.intro o2 hb)); clear o1 o2 hb))
    go_ret2
    exact ⟨vp, vf, rfl, own_base HQ.out.1 HB2.out.size, own_base HQ.out.2.1 HB2.out.size, HB2.out.trans (HQ.out.2.2.mono HB2.out.size)⟩
  · obtain ⟨W2, hW2⟩ : ∃ W2, W2 = ((V.alloc (.cells #[.int .i64 lq.kind, .int .i64 lq.gate, .int .i64 lq.rank, .int .i64 lq.id, .int .i64 lq.sign, .bool lq.over] 50)).alloc (.cells #[.int .i64 lp.kind, .int .i64 lp.gate, .int .i64 lp.rank, .int .i64 lp.id, .int .i64 lp.sign, .bool lp.over] 50)).drew := ⟨_, rfl⟩
    obtain ⟨m1, m2, m3⟩ := two_d V _ _ W2 hW2
    have g1 := Lib.cell_of_heap m2 1
    have g2 := Lib.cell_of_heap m2 2
    have g3 := Lib.cell_of_heap m1 1
    have HB2 : Hid (Below w.heap.size w W2) := HBW.out.trans (m3.mono HBW.out.size)
    rw [← hW2]
    clear hW2 m1 m2 m3 HSC
    go_wp2_with (first
      | (go_at_call 88; refine (HSP.out _ HB2.out).mono ?_; rintro e w3 ⟨vp, vf, rfl, o1, o2, hb⟩; have HQ := Lib.hid (And.intro o1 (And.intro o2 hb)); clear o1 o2 hb))
    go_ret2
    exact ⟨vp, vf, rfl, own_base HQ.out.1 HB2.out.size, own_base HQ.out.2.1 HB2.out.size, HB2.out.trans (HQ.out.2.2.mono HB2.out.size)⟩

end Go.Proofs.YtbbpockkafbfmaaDoor

/-
  The reference's piece of the axis at infinity (for CodeFaces).
-/
namespace Go.Proofs.YtbbpockkafbfmaaDoor
open Go.RowKit

/-- A row of another type than the one that grows stays. -/
theorem kept_apart {w w' : World} {B1 B2 : Nat} {T1 T2 : TypeId} {s1 s2 n1 n2 : Nat} {v1 v2 : Value} {xs1 xs2 : List Value} (h1 : w.ownsRow B1 T1 s1 v1 n1 xs1) (h2 : w.ownsRow B2 T2 s2 v2 n2 xs2) (hT : T1 ≠ T2) (hg : w.grownBy w' v2.ownBlock) : w'.ownsRow B1 T1 s1 v1 n1 xs1 := by
  refine h1.kept hg ?_
  rcases hv : v1.ownBlock with _ | g
  · exact .inl rfl
  · exact .inr fun e => own_apart h1 h2 hT g hv e.symm

set_option maxHeartbeats 4000000 in
set_option maxRecDepth 100000 in
theorem piece_last (f : Int) (A Ax : Option Addr) (n c m cx j a b : Nat) (ls : List Lt) (ax : List Int) (lp lq : Lt) (w : World) (hL : LS w A n ls) (hX : SL w Ax m ax) (hm : m ≤ 1000) (hj : j + 1 = m)
    (ha : ax[j]? = some (a : Int)) (hb : ax[0]? = some (b : Int)) (hlp : ls[a]? = some lp) (hlq : ls[b]? = some lq) (h0 : 0 ≤ lp.gate) (h1 : lp.gate ≤ f) (h2 : f ≤ 40) (h3 : 0 ≤ lq.gate) (h4 : lq.gate ≤ f) :
    Calls Tryd.prog 47 #[.agg #[.int .i64 f, .slice A n c], .slice Ax m cx, .int .i64 (j : Int)] w fun e w' => ∃ vp vf, e = .returned (.tuple #[vp, vf]) ∧
      OwnP w' w.heap.size vp (((lp.gate, lp.rank) :: (upFrom lp.gate (f - lp.gate).toNat).map fun g => (g, 0)) ++ ((0, 0) :: (upFrom 0 lq.gate.toNat).map fun g => (g, 0))) ∧ OwnZ w' w.heap.size vf (upFrom lp.gate (f - lp.gate).toNat ++ upFrom 0 lq.gate.toNat) ∧ Below w.heap.size w w' := by
  have hS1 : ∀ W, Below w.heap.size w W → Calls Tryd.prog 88 #[.int .i64 lp.gate, .int .i64 lp.rank, .int .i64 f] W fun e w' => ∃ vp vf, e = .returned (.tuple #[vp, vf]) ∧
      OwnP w' W.heap.size vp ((lp.gate, lp.rank) :: (upFrom lp.gate (f - lp.gate).toNat).map fun g => (g, 0)) ∧ OwnZ w' W.heap.size vf (upFrom lp.gate (f - lp.gate).toNat) ∧ Below W.heap.size W w' := fun W _ => span_calls lp.gate lp.rank f W h0 h1 h2
  have hS2 : ∀ W, Below w.heap.size w W → Calls Tryd.prog 88 #[.int .i64 0, .int .i64 0, .int .i64 lq.gate] W fun e w' => ∃ vp vf, e = .returned (.tuple #[vp, vf]) ∧
      OwnP w' W.heap.size vp ((0, 0) :: (upFrom 0 lq.gate.toNat).map fun g => (g, 0)) ∧ OwnZ w' W.heap.size vf (upFrom 0 lq.gate.toNat) ∧ Below W.heap.size W w' := fun W _ => by
    have h := span_calls 0 0 lq.gate W (Int.le_refl _) h3 (by omega)
    rw [Int.sub_zero] at h
    exact h
  have lf1 : (upFrom lp.gate (f - lp.gate).toNat).length ≤ 40 := by rw [upFrom_len]; omega
  have lf2 : (upFrom 0 lq.gate.toNat).length ≤ 40 := by rw [upFrom_len]; omega
  have lp1 : ((lp.gate, lp.rank) :: (upFrom lp.gate (f - lp.gate).toNat).map fun g => (g, (0 : Int))).length ≤ 41 := by rw [List.length_cons, List.length_map]; omega
  have lp2 : (((0 : Int), (0 : Int)) :: (upFrom 0 lq.gate.toNat).map fun g => (g, (0 : Int))).length ≤ 41 := by rw [List.length_cons, List.length_map]; omega
  generalize ((lp.gate, lp.rank) :: (upFrom lp.gate (f - lp.gate).toNat).map fun g => (g, (0 : Int))) = pa at *
  generalize (((0 : Int), (0 : Int)) :: (upFrom 0 lq.gate.toNat).map fun g => (g, (0 : Int))) = pb at *
  generalize upFrom lp.gate (f - lp.gate).toNat = fa at *
  generalize upFrom 0 lq.gate.toNat = fb at *
  have HS1 := Lib.hid hS1
  have HS2 := Lib.hid hS2
  have hal : a < n := by have := (List.getElem?_eq_some_iff.1 hlp).1; have := hL.1; omega
  have hbl : b < n := by have := (List.getElem?_eq_some_iff.1 hlq).1; have := hL.1; omega
  obtain ⟨bX, oX, x1, rfl, hbX, hx1, cx1⟩ := hX.at_ (k := j) (by omega)
  obtain ⟨b', o', x2, e2, _, hx2, cx2⟩ := hX.at_ (k := 0) (by omega)
  injection e2 with e2
  injection e2 with e3 e4
  subst e3 e4
  rw [Nat.add_zero] at cx2
  rw [ha] at hx1
  rw [hb] at hx2
  injection hx1 with hx1
  injection hx2 with hx2
  subst hx1 hx2
  obtain ⟨bL, oL, l1, rfl, hbL, hl1, p0, p1, p2, p3, p4, p5⟩ := hL.at_ hal
  obtain ⟨b', o', l2, e2, _, hl2, q0, q1, q2, q3, q4, q5⟩ := hL.at_ hbl
  injection e2 with e2
  injection e2 with e3 e4
  subst e3 e4
  rw [hlp] at hl1
  rw [hlq] at hl2
  injection hl1 with hl1
  injection hl2 with hl2
  subst hl1 hl2
  have hai : (a : Int) < n := by omega
  have hbi : (b : Int) < n := by omega
  have hji : (j : Int) < m := by omega
  have hjm : (j : Int) + 1 = (m : Int) := by omega
  have hm00 : (0 : Int) < m := by omega
  have hmN : 0 < m := by omega
  have hmm : (m : Int).tmod (m : Int) = 0 := Int.tmod_self
  have hmw0 : IntKind.i64.wrap (m : Int) = (m : Int) := wrapI (by omega) (by omega)
  have hjw : IntKind.i64.wrap ((j : Int) + 1) = (m : Int) := by rw [hjm]; exact hmw0
  have hjl : ¬ (j : Int) < (m : Int) - 1 := by omega
  have hmz : ¬ (m : Int) = 0 := by omega
  have hmz2 : ¬ m = 0 := by omega
  have hmw : IntKind.i64.wrap ((m : Int) - 1) = (m : Int) - 1 := wrapI (by omega) (by omega)
  have hjd : decide ((j : Int) < (m : Int) - 1) = false := decide_eq_false hjl
  have hm0 : ((m : Int) == 0) = false := by rw [beq_eq_false_iff_ne]; omega
  have hm1 : (0 : Int) < m := by omega
  clear ha hb hlp hlq hS1 hS2
  go_enter Tryd.func47, Tryd.ntmps47
  go_wp2_with fail
  obtain ⟨V, hV⟩ : ∃ V, V = w.alloc (.cells #[.int .i64 f, .slice (some ⟨bL, oL, none⟩) n c] 33) := ⟨_, rfl⟩
  have hbV : Below w.heap.size w V := by rw [hV]; exact (Below.refl _ _).alloc (Nat.le_refl _) _
  have hPV : V.heap[w.heap.size]? = some (.cells #[.int .i64 f, .slice (some ⟨bL, oL, none⟩) n c] 33 (0, 0)) := by rw [hV]; exact heap_alloc_new w _
  obtain ⟨P, hP⟩ : ∃ P, P = w.heap.size := ⟨_, rfl⟩
  have hPs : P < V.heap.size := by rw [hP, hV]; simp
  have hXs : bX < V.heap.size := Nat.lt_of_lt_of_le hbX hbV.size
  have hLs : bL < V.heap.size := Nat.lt_of_lt_of_le hbL hbV.size
  have HSC : Hid (PcS P f (.slice (some ⟨bL, oL, none⟩) n c) bX (oX + j) (oX) a b bL (oL + a * 6) (oL + b * 6) lp lq V V) := by
    have e2 : ∀ o, V.cell? ⟨bX, o, none⟩ = w.cell? ⟨bX, o, none⟩ := fun o => hbV.cell (p := ⟨bX, o, none⟩) hbX
    have e3 : ∀ o, V.cell? ⟨bL, o, none⟩ = w.cell? ⟨bL, o, none⟩ := fun o => hbV.cell (p := ⟨bL, o, none⟩) hbL
    unfold PcS
    rw [e2, e2, e3, e3, e3, e3, e3, e3, e3, e3, e3, e3, e3, e3, hP]
    exact ⟨Lib.cell_of_heap hPV 0, Lib.cell_of_heap hPV 1, cx1, cx2, p0, p1, p2, p3, p4, p5, q0, q1, q2, q3, q4, q5, Below.refl _ _⟩
  have HBW := Lib.hid hbV
  rw [← hV, ← hP]
  clear hV hP hPV hbV cx1 cx2 p0 p1 p2 p3 p4 p5 q0 q1 q2 q3 q4 q5
  go_wp2_with fail
  go_region_held3 (fun w' => w'.cell? ⟨P, 0, none⟩ = some (.int .i64 f) ∧ w'.cell? ⟨P, 1, none⟩ = some (.slice (some ⟨bL, oL, none⟩) n c) ∧ w'.cell? ⟨bX, oX + j, none⟩ = some (.int .i64 (a : Int)) ∧ w'.cell? ⟨bX, oX, none⟩ = some (.int .i64 (b : Int)) ∧
      w'.cell? ⟨bL, oL + a * 6, none⟩ = some (.int .i64 lp.kind) ∧ w'.cell? ⟨bL, oL + a * 6 + 1, none⟩ = some (.int .i64 lp.gate) ∧ w'.cell? ⟨bL, oL + a * 6 + 2, none⟩ = some (.int .i64 lp.rank) ∧ w'.cell? ⟨bL, oL + a * 6 + 3, none⟩ = some (.int .i64 lp.id) ∧ w'.cell? ⟨bL, oL + a * 6 + 4, none⟩ = some (.int .i64 lp.sign) ∧ w'.cell? ⟨bL, oL + a * 6 + 5, none⟩ = some (.bool lp.over) ∧
      w'.cell? ⟨bL, oL + b * 6, none⟩ = some (.int .i64 lq.kind) ∧ w'.cell? ⟨bL, oL + b * 6 + 1, none⟩ = some (.int .i64 lq.gate) ∧ w'.cell? ⟨bL, oL + b * 6 + 2, none⟩ = some (.int .i64 lq.rank) ∧ w'.cell? ⟨bL, oL + b * 6 + 3, none⟩ = some (.int .i64 lq.id) ∧ w'.cell? ⟨bL, oL + b * 6 + 4, none⟩ = some (.int .i64 lq.sign) ∧ w'.cell? ⟨bL, oL + b * 6 + 5, none⟩ = some (.bool lq.over) ∧ Below V.heap.size V w')
    (exact PcS.of hPs hXs hLs HSC.out (by repeat (first | exact Below.refl _ _ | refine Below.drew ?_ | refine Below.alloc ?_ (by simp; try omega) _)))
    (fail)
  · obtain ⟨W2, hW2⟩ : ∃ W2, W2 = ((V.alloc (.cells #[.int .i64 lp.kind, .int .i64 lp.gate, .int .i64 lp.rank, .int .i64 lp.id, .int .i64 lp.sign, .bool lp.over] 50)).alloc (.cells #[.int .i64 lq.kind, .int .i64 lq.gate, .int .i64 lq.rank, .int .i64 lq.id, .int .i64 lq.sign, .bool lq.over] 50)).drew := ⟨_, rfl⟩
    obtain ⟨m1, m2, m3⟩ := two_d V _ _ W2 hW2
    have g1 := Lib.cell_of_heap m1 1
    have g2 := Lib.cell_of_heap m1 2
    have g3 := Lib.cell_of_heap m2 1
    have g4 := (m3.cell (p := ⟨P, 0, none⟩) hPs).trans HSC.out.1
    have HB2 : Hid (Below w.heap.size w W2) := HBW.out.trans (m3.mono HBW.out.size)
    rw [← hW2]
    clear hW2 m1 m2 m3 HSC
    obtain ⟨i0, hi, hz0, hz1, hz2⟩ := info_parts infoPlace
    obtain ⟨k0, ki, kz0, kz1, kz2⟩ := info_parts infoInt'
    go_wp2_with (first
      | (go_at_call 88; (with_reducible refine (HS1.out _ ?hbx).mono ?_); (case hbx => exact HB2.out); rintro e w3 ⟨vp1, vf1, rfl, o1, o2, hb⟩; obtain ⟨Ap1, cp1, rfl⟩ := own_form o1; obtain ⟨Af1, cf1, rfl⟩ := own_form o2; have HQ1 := Lib.hid (And.intro o1 (And.intro o2 hb)); have g5 := (hb.cell (World.block_lt_of_cell? W2 _ g3)).trans g3; have HB3 : Hid (Below w.heap.size w w3) := HB2.out.trans (hb.mono HB2.out.size); clear o1 o2 hb g1 g2 g3 g4)
      | (go_at_call 88; (with_reducible refine (HS2.out _ ?hbx).mono ?_); (case hbx => exact HB3.out); rintro e w4 ⟨vp2, vf2, rfl, o1, o2, hb⟩; obtain ⟨Ap2, cp2, rfl⟩ := own_form o1; obtain ⟨Af2, cf2, rfl⟩ := own_form o2; have HQ2 := Lib.hid (And.intro o1 (And.intro o2 hb)); have HR1 := Lib.hid (And.intro (ownsRow_below HQ1.out.1 hb) (ownsRow_below HQ1.out.2.1 hb)); have HB4 : Hid (Below w.heap.size w w4) := HB3.out.trans (hb.mono HB3.out.size); have hs4 : W2.heap.size ≤ w4.heap.size := Nat.le_trans HQ1.out.2.2.size hb.size; clear o1 o2 hb g5)
      | (at_builtin; refine wpList_append_src _ rfl _ _ 43 rfl W2.heap.size 69 i0 (.agg #[.int .i64 0, .int .i64 0]) 2 16 Tryd.underlying43 hi hz0 hz1 hz2 rfl (by decide) (.slice Ap1 pa.length cp1) _ _ rfl HR1.out.1 (.slice Ap2 pb.length cp2) _ _ _ rfl HQ2.out.1 (placeVs_one _) (by unfold maxLen; omega) (by omega) hs4 ?_; intro v5 w5 ho5 hg5 hl5; obtain ⟨Av5, cv5, rfl⟩ := own_form ho5; have HZ5 := Lib.hid (And.intro (kept_apart HR1.out.2 HR1.out.1 (by decide) hg5) (kept_apart HQ2.out.2.1 HR1.out.1 (by decide) hg5)); have HO5 := Lib.hid ho5; have HB5 : Hid (Below w.heap.size w w5) := HB4.out.grown hg5 HB4.out.size (fun k hk => Nat.le_trans HB2.out.size (World.ownsRow.lt HR1.out.1 k hk).1); have hs5 : W2.heap.size ≤ w5.heap.size := Nat.le_trans hs4 hg5.size; clear ho5 hg5 hl5)
      | (at_builtin; refine wpList_append_src _ rfl _ _ 28 rfl W2.heap.size 3 k0 (.int .i64 0) 1 8 Tryd.underlying28 ki kz0 kz1 kz2 rfl (by decide) (.slice Af1 fa.length cf1) _ _ rfl HZ5.out.1 (.slice Af2 fb.length cf2) _ _ _ rfl HZ5.out.2 (by intro u hu; obtain ⟨x, _, rfl⟩ := List.mem_map.1 hu; rfl) (by unfold maxLen; omega) (by omega) hs5 ?_; intro v6 w6 ho6 hg6 hl6; obtain ⟨Av6, cv6, rfl⟩ := own_form ho6; have HO6 := Lib.hid (And.intro (kept_apart HO5.out HZ5.out.1 (by decide) hg6) ho6); have HB6 : Hid (Below w.heap.size w w6) := HB5.out.grown hg6 HB5.out.size (fun k hk => Nat.le_trans HB2.out.size (World.ownsRow.lt HZ5.out.1 k hk).1); clear ho6 hg6 hl6))
    go_ret2
    refine ⟨_, _, rfl, ?_, ?_, HB6.out⟩
    · have h := own_base HO6.out.1 HB2.out.size
      unfold OwnP placeVs
      rw [List.flatMap_append, List.length_append]
      exact h
    · have h := own_base HO6.out.2 HB2.out.size
      unfold OwnZ
      rw [List.map_append, List.length_append]
      exact h
  · obtain ⟨W2, hW2⟩ : ∃ W2, W2 = ((V.alloc (.cells #[.int .i64 lq.kind, .int .i64 lq.gate, .int .i64 lq.rank, .int .i64 lq.id, .int .i64 lq.sign, .bool lq.over] 50)).alloc (.cells #[.int .i64 lp.kind, .int .i64 lp.gate, .int .i64 lp.rank, .int .i64 lp.id, .int .i64 lp.sign, .bool lp.over] 50)).drew := ⟨_, rfl⟩
    obtain ⟨m1, m2, m3⟩ := two_d V _ _ W2 hW2
    have g1 := Lib.cell_of_heap m2 1
    have g2 := Lib.cell_of_heap m2 2
    have g3 := Lib.cell_of_heap m1 1
    have g4 := (m3.cell (p := ⟨P, 0, none⟩) hPs).trans HSC.out.1
    have HB2 : Hid (Below w.heap.size w W2) := HBW.out.trans (m3.mono HBW.out.size)
    rw [← hW2]
    clear hW2 m1 m2 m3 HSC
    obtain ⟨i0, hi, hz0, hz1, hz2⟩ := info_parts infoPlace
    obtain ⟨k0, ki, kz0, kz1, kz2⟩ := info_parts infoInt'
    go_wp2_with (first
      | (go_at_call 88; (with_reducible refine (HS1.out _ ?hbx).mono ?_); (case hbx => exact HB2.out); rintro e w3 ⟨vp1, vf1, rfl, o1, o2, hb⟩; obtain ⟨Ap1, cp1, rfl⟩ := own_form o1; obtain ⟨Af1, cf1, rfl⟩ := own_form o2; have HQ1 := Lib.hid (And.intro o1 (And.intro o2 hb)); have g5 := (hb.cell (World.block_lt_of_cell? W2 _ g3)).trans g3; have HB3 : Hid (Below w.heap.size w w3) := HB2.out.trans (hb.mono HB2.out.size); clear o1 o2 hb g1 g2 g3 g4)
      | (go_at_call 88; (with_reducible refine (HS2.out _ ?hbx).mono ?_); (case hbx => exact HB3.out); rintro e w4 ⟨vp2, vf2, rfl, o1, o2, hb⟩; obtain ⟨Ap2, cp2, rfl⟩ := own_form o1; obtain ⟨Af2, cf2, rfl⟩ := own_form o2; have HQ2 := Lib.hid (And.intro o1 (And.intro o2 hb)); have HR1 := Lib.hid (And.intro (ownsRow_below HQ1.out.1 hb) (ownsRow_below HQ1.out.2.1 hb)); have HB4 : Hid (Below w.heap.size w w4) := HB3.out.trans (hb.mono HB3.out.size); have hs4 : W2.heap.size ≤ w4.heap.size := Nat.le_trans HQ1.out.2.2.size hb.size; clear o1 o2 hb g5)
      | (at_builtin; refine wpList_append_src _ rfl _ _ 43 rfl W2.heap.size 69 i0 (.agg #[.int .i64 0, .int .i64 0]) 2 16 Tryd.underlying43 hi hz0 hz1 hz2 rfl (by decide) (.slice Ap1 pa.length cp1) _ _ rfl HR1.out.1 (.slice Ap2 pb.length cp2) _ _ _ rfl HQ2.out.1 (placeVs_one _) (by unfold maxLen; omega) (by omega) hs4 ?_; intro v5 w5 ho5 hg5 hl5; obtain ⟨Av5, cv5, rfl⟩ := own_form ho5; have HZ5 := Lib.hid (And.intro (kept_apart HR1.out.2 HR1.out.1 (by decide) hg5) (kept_apart HQ2.out.2.1 HR1.out.1 (by decide) hg5)); have HO5 := Lib.hid ho5; have HB5 : Hid (Below w.heap.size w w5) := HB4.out.grown hg5 HB4.out.size (fun k hk => Nat.le_trans HB2.out.size (World.ownsRow.lt HR1.out.1 k hk).1); have hs5 : W2.heap.size ≤ w5.heap.size := Nat.le_trans hs4 hg5.size; clear ho5 hg5 hl5)
      | (at_builtin; refine wpList_append_src _ rfl _ _ 28 rfl W2.heap.size 3 k0 (.int .i64 0) 1 8 Tryd.underlying28 ki kz0 kz1 kz2 rfl (by decide) (.slice Af1 fa.length cf1) _ _ rfl HZ5.out.1 (.slice Af2 fb.length cf2) _ _ _ rfl HZ5.out.2 (by intro u hu; obtain ⟨x, _, rfl⟩ := List.mem_map.1 hu; rfl) (by unfold maxLen; omega) (by omega) hs5 ?_; intro v6 w6 ho6 hg6 hl6; obtain ⟨Av6, cv6, rfl⟩ := own_form ho6; have HO6 := Lib.hid (And.intro (kept_apart HO5.out HZ5.out.1 (by decide) hg6) ho6); have HB6 : Hid (Below w.heap.size w w6) := HB5.out.grown hg6 HB5.out.size (fun k hk => Nat.le_trans HB2.out.size (World.ownsRow.lt HZ5.out.1 k hk).1); clear ho6 hg6 hl6))
    go_ret2
    refine ⟨_, _, rfl, ?_, ?_, HB6.out⟩
    · have h := own_base HO6.out.1 HB2.out.size
      unfold OwnP placeVs
      rw [List.flatMap_append, List.length_append]
      exact h
    · have h := own_base HO6.out.2 HB2.out.size
      unfold OwnZ
      rw [List.map_append, List.length_append]
      exact h

end Go.Proofs.YtbbpockkafbfmaaDoor

/-
  The reference's piece of the axis of a valid code's map (for CodeFaces).
-/
namespace Go.Proofs.YtbbpockkafbfmaaDoor
open Go.RowKit

theorem piece_calls {D : DM} (g : D.good) (f : Int) (hf : f ≤ 40) (hg : ∀ l, l ∈ D.ls → l.kind = 1 → 0 ≤ l.gate ∧ l.gate ≤ f) (A Ax : Option Addr) (c cx j : Nat) (w : World) (hL : LS w A D.n D.ls) (hX : SL w Ax D.m (D.ax.map Int.ofNat)) (hj : j < D.m) :
    Calls Tryd.prog 47 #[.agg #[.int .i64 f, .slice A D.n c], .slice Ax D.m cx, .int .i64 (j : Int)] w fun e w' => ∃ vp vf, e = .returned (.tuple #[vp, vf]) ∧
      OwnP w' w.heap.size vp (pcP f D.ls D.ax D.m j) ∧ OwnZ w' w.heap.size vf (pcZ f D.ls D.ax D.m j) ∧ Below w.heap.size w w' := by
  have hm : D.m ≤ 1000 := by
    have h1 := g.ok.n1
    have h2 := cntB_take_le isPass D.ls D.n
    rw [List.take_of_length_le (by rw [g.ok.ls]; omega), g.npass] at h2
    omega
  obtain ⟨lp, hlp, kp, sp⟩ := g.axp j hj
  have bp := hg lp (List.mem_of_getElem? hlp) kp
  have ha := ax_at g hj
  have fr : gapFrom D.ls D.ax (j + 1) = (lp.gate, lp.rank) := by
    unfold gapFrom
    rw [if_neg (by omega), Nat.add_sub_cancel, hlp]
  by_cases h1 : j + 1 < D.m
  · obtain ⟨lq, hlq, kq, sq⟩ := g.axp (j + 1) h1
    have bq := hg lq (List.mem_of_getElem? hlq) kq
    have hle : lp.gate ≤ lq.gate := by
      have := (g.lft _ _ lp lq hlp hlq kp kq).2 (by rw [sp, sq]; omega)
      omega
    have tg : gapTo f D.ls D.ax D.m (j + 1) = lq.gate := by
      unfold gapTo
      rw [if_pos h1, hlq]
    refine (piece_near f A Ax D.n c D.m cx j _ _ D.ls _ lp lq w hL hX (by omega) h1 ha (ax_at g h1) hlp hlq bp.1 hle (by omega)).mono ?_
    rintro e w' ⟨vp, vf, rfl, o1, o2, hb⟩
    refine ⟨vp, vf, rfl, ?_, ?_, hb⟩
    · unfold pcP gapPlaces gapFingers
      rw [if_pos h1, fr, tg]
      exact o1
    · unfold pcZ gapFingers
      rw [if_pos h1, fr, tg]
      exact o2
  · have h2 : j + 1 = D.m := by omega
    obtain ⟨lq, hlq, kq, sq⟩ := g.axp 0 (by omega)
    have bq := hg lq (List.mem_of_getElem? hlq) kq
    have t1 : gapTo f D.ls D.ax D.m D.m = f := by unfold gapTo; rw [if_neg (by omega)]
    have t2 : gapTo f D.ls D.ax D.m 0 = lq.gate := by
      unfold gapTo
      rw [if_pos (by omega), hlq]
    have fr0 : gapFrom D.ls D.ax 0 = (0, 0) := rfl
    rw [h2] at fr
    refine (piece_last f A Ax D.n c D.m cx j _ _ D.ls _ lp lq w hL hX (by omega) h2 ha (ax_at g (by omega)) hlp hlq bp.1 bp.2 hf bq.1 bq.2).mono ?_
    rintro e w' ⟨vp, vf, rfl, o1, o2, hb⟩
    refine ⟨vp, vf, rfl, ?_, ?_, hb⟩
    · unfold pcP gapPlaces gapFingers
      rw [if_neg h1, fr, t1, t2, fr0, Int.sub_zero]
      exact o1
    · unfold pcZ gapFingers
      rw [if_neg h1, fr, t1, t2, fr0, Int.sub_zero]
      exact o2

end Go.Proofs.YtbbpockkafbfmaaDoor
