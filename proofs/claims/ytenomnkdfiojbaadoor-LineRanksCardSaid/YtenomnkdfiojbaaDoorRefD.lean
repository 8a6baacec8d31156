/-
  The walks of the reference's Normal and Drop.
-/
import Derived.Test.YtenomnkdfiojbaaDoorRefC
import Derived.Test.YtenomnkdfiojbaaDoorForget
namespace Go.Proofs.YtenomnkdfiojbaaDoor
open Go.RowKit

def NormPost (xs : List Int) (w : World) (e : Ending) (w' : World) : Prop :=
  ∃ A m c, e = .returned (.slice A m c) ∧ SL w' A m (Ln.normal xs) ∧ m ≤ 400 ∧ Below w.heap.size w w'
def BestR (l : List Int) (m : Nat) (w1 : World) (b i : Value) (wr : World) : Prop :=
  ∃ (k : Nat) (A : Option Addr) (c : Nat), k ≤ m / 2 ∧ i = .int .i64 (2 * (k : Int)) ∧ b = .slice A m c ∧ SL wr A m (Ln.refBest l k) ∧ Below w1.heap.size w1 wr

theorem BestR.next {l : List Int} {m k : Nat} {w1 wr : World} {A : Option Addr} {c : Nat} (hk : k < m / 2) (h : SL wr A m (Ln.refBest l (k + 1))) (hb : Below w1.heap.size w1 wr) : BestR l m w1 (.slice A m c) (.int .i64 (2 * (k : Int) + 2)) wr :=
  ⟨k + 1, A, c, by omega, by congr 1, rfl, h, hb⟩

set_option maxHeartbeats 2000000 in
set_option maxRecDepth 100000 in
theorem refNormal_calls (A : Option Addr) (n cap : Nat) (xs : List Int) (w : World) (h : SL w A n xs) (hcap : A = none → cap = 0) (he : n % 2 = 0) (hn : n ≤ 400) :
    Calls Tryd.prog 19 #[.slice A n cap] w (NormPost xs w) := by
  have HR := Lib.hid (refReduce_calls A n cap xs w h hcap he hn)
  go_enter Tryd.func19, Tryd.ntmps19
  go_wp2_with fail
  refine HR.out.mono ?_
  rintro e w0 ⟨A0, m, c0, l, rfl, hsl0, hmc0, hme, hm4, hcyc, hnorm, _, hb0⟩
  have HNORM := Lib.hid hnorm
  have HME := Lib.hid hme
  have HLL := Lib.hid hsl0.1
  clear hnorm hcyc hme
  go_wp2_with fail
  refine (refReverse_calls A0 m c0 l w0 hsl0 (by omega)).mono ?_
  rintro e w1 ⟨A1, c1, rfl, hown1, hmc1, hb1⟩
  have hslr := hsl0.below hb1
  have hslb := hown1.sl
  have hbw1 : Below w.heap.size w w1 := hb0.trans (hb1.mono hb0.size)
  have HSR := Lib.hid hslr
  have HSB := Lib.hid hslb
  clear hsl0 hown1 hb1 hslr hslb
  go_wp2_with fail
  go_loopw [4, 6] (fun b i wr => BestR l m w1 b i wr) (fun _ i _ => m - (intOf i).toNat)
  case atStart => exact ⟨0, A0, c0, Nat.zero_le _, rfl, rfl, HSR.out, Below.refl _ _⟩
  case round =>
    obtain ⟨k, A2, c2, hk, rfl, rfl, hsl2, hb2⟩ := hrel
    have HS2 := Lib.hid hsl2
    clear hsl2
    by_cases hlt : k < m / 2
    · have hki : 2 * (k : Int) < m := by omega
      have e2 : ((2 * k : Nat) : Int) = 2 * (k : Int) := by omega
      have HA := Lib.hid (rotated_calls A0 m c0 l (2 * k) wr (HSR.out.below hb2) hmc0 (by omega) (by omega))
      rw [e2] at HA
      go_wp2_with fail
      refine HA.out.mono ?_
      rintro e wa ⟨Aa, ca, rfl, howna, _, hba⟩
      have hb2a : Below w1.heap.size w1 wa := hb2.trans (hba.mono hb2.size)
      have HB := Lib.hid (rotated_calls A1 m c1 l.reverse (2 * k) wa (HSB.out.below hb2a) hmc1 (by omega) (by omega))
      rw [e2] at HB
      have HSA := Lib.hid howna.sl
      have HS2a := Lib.hid (HS2.out.below hba)
      clear e2 howna hba
      go_wp2_with fail
      refine HB.out.mono ?_
      rintro e wb ⟨Ab, cb, rfl, hownb, _, hbb⟩
      have hb2b : Below w1.heap.size w1 wb := hb2a.trans (hbb.mono hb2a.size)
      have HSBb := Lib.hid hownb.sl
      have HSAb := Lib.hid (HSA.out.below hbb)
      have HS2b := Lib.hid (HS2a.out.below hbb)
      clear hownb hbb
      have HL1 := Lib.hid (less_calls Aa A2 m ca c2 (Ln.rotN (2 * k) l) (Ln.refBest l k) wb HSAb.out HS2b.out (by omega))
      cases hx : Ln.lexLt (Ln.rotN (2 * k) l) (Ln.refBest l k) with
      | true =>
        have HX := Lib.hid hx
        clear hx
        go_wp2_with fail
        refine HL1.out.mono ?_
        rw [HX.out]
        rintro e wc ⟨rfl, hbc⟩
        have hb2c : Below w1.heap.size w1 wc := hb2b.trans (hbc.mono hb2b.size)
        have HL2 := Lib.hid (less_calls Ab Aa m cb ca (Ln.rotN (2 * k) l.reverse) (Ln.rotN (2 * k) l) wc (HSBb.out.below hbc) (HSAb.out.below hbc) (by omega))
        cases hy : Ln.lexLt (Ln.rotN (2 * k) l.reverse) (Ln.rotN (2 * k) l) with
        | true =>
          have HY := Lib.hid hy
          have HE : Hid (Ln.refBest l (k + 1) = Ln.rotN (2 * k) l.reverse) := by unfold Hid Ln.refBest; simp [HX.out, hy]
          clear hy
          go_wp2_with fail
          refine HL2.out.mono ?_
          rw [HY.out]
          rintro e wd ⟨rfl, hbd⟩
          have HREL : Hid (BestR l m w1 (.slice Ab m cb) (.int .i64 (2 * (k : Int) + 2)) wd) := BestR.next hlt (by rw [HE.out]; exact (HSBb.out.below hbc).below hbd) (hb2c.trans (hbd.mono hb2c.size))
          clear hbc hbd
          go_wp2_with fail
          go_roundw
          case rel => exact HREL.out
          case measure => simp [intOf]; omega
        | false =>
          have HY := Lib.hid hy
          have HE : Hid (Ln.refBest l (k + 1) = Ln.rotN (2 * k) l) := by unfold Hid Ln.refBest; simp [HX.out, hy]
          clear hy
          go_wp2_with fail
          refine HL2.out.mono ?_
          rw [HY.out]
          rintro e wd ⟨rfl, hbd⟩
          have HREL : Hid (BestR l m w1 (.slice Aa m ca) (.int .i64 (2 * (k : Int) + 2)) wd) := BestR.next hlt (by rw [HE.out]; exact (HSAb.out.below hbc).below hbd) (hb2c.trans (hbd.mono hb2c.size))
          clear hbc hbd
          go_wp2_with fail
          go_roundw
          case rel => exact HREL.out
          case measure => simp [intOf]; omega
      | false =>
        have HX := Lib.hid hx
        clear hx
        go_wp2_with fail
        refine HL1.out.mono ?_
        rw [HX.out]
        rintro e wc ⟨rfl, hbc⟩
        have hb2c : Below w1.heap.size w1 wc := hb2b.trans (hbc.mono hb2b.size)
        have HL2 := Lib.hid (less_calls Ab A2 m cb c2 (Ln.rotN (2 * k) l.reverse) (Ln.refBest l k) wc (HSBb.out.below hbc) (HS2b.out.below hbc) (by omega))
        cases hy : Ln.lexLt (Ln.rotN (2 * k) l.reverse) (Ln.refBest l k) with
        | true =>
          have HY := Lib.hid hy
          have HE : Hid (Ln.refBest l (k + 1) = Ln.rotN (2 * k) l.reverse) := by unfold Hid Ln.refBest; simp [HX.out, hy]
          clear hy
          go_wp2_with fail
          refine HL2.out.mono ?_
          rw [HY.out]
          rintro e wd ⟨rfl, hbd⟩
          have HREL : Hid (BestR l m w1 (.slice Ab m cb) (.int .i64 (2 * (k : Int) + 2)) wd) := BestR.next hlt (by rw [HE.out]; exact (HSBb.out.below hbc).below hbd) (hb2c.trans (hbd.mono hb2c.size))
          clear hbc hbd
          go_wp2_with fail
          go_roundw
          case rel => exact HREL.out
          case measure => simp [intOf]; omega
        | false =>
          have HY := Lib.hid hy
          have HE : Hid (Ln.refBest l (k + 1) = Ln.refBest l k) := by unfold Hid; rw [Ln.refBest]; simp [HX.out, hy]
          clear hy
          go_wp2_with fail
          refine HL2.out.mono ?_
          rw [HY.out]
          rintro e wd ⟨rfl, hbd⟩
          have HREL : Hid (BestR l m w1 (.slice A2 m c2) (.int .i64 (2 * (k : Int) + 2)) wd) := BestR.next hlt (by rw [HE.out]; exact (HS2b.out.below hbc).below hbd) (hb2c.trans (hbd.mono hb2c.size))
          clear hbc hbd
          go_wp2_with fail
          go_roundw
          case rel => exact HREL.out
          case measure => simp [intOf]; omega
    · have hke : k = m / 2 := by omega
      have hki : (m : Int) ≤ 2 * (k : Int) := by have := HME.out; omega
      have HKE := Lib.hid hke
      clear hke hlt
      go_wp2_with fail
      go_ret
      refine ⟨A2, m, c2, rfl, ?_, hm4, hbw1.trans (hb2.mono hbw1.size)⟩
      have e := HS2.out
      rw [HKE.out, ← HLL.out, Ln.refBest_least l (by rw [HLL.out]; exact HME.out)] at e
      rw [HNORM.out, ← HLL.out]
      exact e

def DropRel (f : Int) (xs : List Int) (n : Nat) (w : World) (v i : Value) (wr : World) : Prop :=
  ∃ j : Nat, j ≤ n ∧ i = .int .i64 j ∧ OwnI wr w.heap.size v (dropL f (xs.take j)) ∧ Below w.heap.size w wr
theorem drop_step {f : Int} {xs : List Int} {j : Nat} {x : Int} (hx : xs[j]? = some x) : dropL f (xs.take (j + 1)) = dropL f (xs.take j) ++ [dropOne f x] := by
  rw [List.take_add_one, hx]; simp [dropL]

set_option maxHeartbeats 1000000 in
set_option maxRecDepth 100000 in
theorem refDrop_calls (A : Option Addr) (n cap : Nat) (xs : List Int) (f : Int) (w : World) (h : SL w A n xs) (hn : n ≤ 1000) (hr : ∀ x, x ∈ xs → 0 ≤ x ∧ x ≤ 40) :
    Calls Tryd.prog 33 #[.slice A n cap, .int .i64 f] w (ListPost w (dropL f xs) n) := by
  have HL := Lib.hid h.1
  have HR := Lib.hid hr
  clear hr
  go_enter Tryd.func33, Tryd.ntmps33
  go_wp2_with fail
  go_loopw [5, 6] (fun v i wr => DropRel f xs n w v i wr) (fun _ i _ => n - (intOf i).toNat)
  case atStart => exact ⟨0, Nat.zero_le _, rfl, World.ownsRow_nil _ _ _ _, Below.refl _ _⟩
  case round =>
    obtain ⟨j, hj, rfl, hown, hb⟩ := hrel
    have HOWN := Lib.hid hown
    have hws := hb.size
    have hlen : (dropL f (xs.take j)).length ≤ n := by unfold dropL; rw [List.length_map, List.length_take]; omega
    have HLEN := Lib.hid hlen
    clear hown hlen
    by_cases hlt : j < n
    · obtain ⟨b, off, x, rfl, _, hx, hc⟩ := (h.below hb).at_ hlt
      have hxr := HR.out x (List.mem_of_getElem? hx)
      obtain ⟨x0, x1⟩ := hxr
      have HS := Lib.hid (drop_step (f := f) hx)
      clear hx
      by_cases hfx : f ≤ x
      · have HD : Hid (dropOne f x = x - 1) := by unfold Hid dropOne; rw [if_pos hfx]
        go_wp2_with (at_builtin; refine wpList_append_ints rfl _ _ rfl w.heap.size _ (dropL f (xs.take j)) rfl (OwnI.below HOWN.out ((Below.refl _ _).alloc (Nat.le_refl _) _)) ⟨wr.heap.size, 0, none⟩ 1 1 [x - 1] rfl ?c0 ?c1 ?c2 ?_)
        case c0 => exact SL.one wr _ _
        case c1 => have := HLEN.out; omega
        case c2 => first | omega | (simp; omega)
        intro v' w' hown' hg _
        have hnb := grown_below (hb.alloc hb.size _) (HOWN.out.below ((Below.refl _ _).alloc (Nat.le_refl _) _)) hg
        have HREL : Hid (DropRel f xs n w v' (.int .i64 ((j : Int) + 1)) w') := ⟨j + 1, by omega, by rw [Int.natCast_add]; rfl, by rw [HS.out, HD.out]; exact hown', hnb⟩
        clear hown' hg hc hnb
        go_wp2_with fail
        go_roundw
        case rel => exact HREL.out
        case measure => simp [intOf]; omega
      · have HD : Hid (dropOne f x = x) := by unfold Hid dropOne; rw [if_neg hfx]
        go_wp2_with (at_builtin; refine wpList_append_ints rfl _ _ rfl w.heap.size _ (dropL f (xs.take j)) rfl (OwnI.below HOWN.out ((Below.refl _ _).alloc (Nat.le_refl _) _)) ⟨wr.heap.size, 0, none⟩ 1 1 [x] rfl ?c0 ?c1 ?c2 ?_)
        case c0 => exact SL.one wr _ _
        case c1 => have := HLEN.out; omega
        case c2 => first | omega | (simp; omega)
        intro v' w' hown' hg _
        have hnb := grown_below (hb.alloc hb.size _) (HOWN.out.below ((Below.refl _ _).alloc (Nat.le_refl _) _)) hg
        have HREL : Hid (DropRel f xs n w v' (.int .i64 ((j : Int) + 1)) w') := ⟨j + 1, by omega, by rw [Int.natCast_add]; rfl, by rw [HS.out, HD.out]; exact hown', hnb⟩
        clear hown' hg hc hnb
        go_wp2_with fail
        go_roundw
        case rel => exact HREL.out
        case measure => simp [intOf]; omega
    · obtain rfl : j = n := by omega
      go_wp2_with fail
      go_ret
      have e := HOWN.out
      rw [List.take_of_length_le (by rw [HL.out]; omega)] at e
      exact ListPost.of (by unfold dropL; rw [List.length_map, HL.out]) e hb

end Go.Proofs.YtenomnkdfiojbaaDoor
