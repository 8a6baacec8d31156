/-
  The walk of the law CodePlain.
-/
import Derived.Test.YtbbpockkafbfmaaDoorPlainP
import Derived.Test.YtbbpockkafbfmaaDoorAppL
import Derived.Test.YtbbpockkafbfmaaDoorLEq
import Derived.Test.YtbbpockkafbfmaaDoorOther
import Derived.Test.YtbbpockkafbfmaaDoorKn3
import Derived.Test.YtbbpockkafbfmaaDoorDoorL
import Derived.Deep.RegionLaw
import Derived.Test.YtbbpockkafbfmaaDoorRev
namespace Go.Proofs.YtbbpockkafbfmaaDoor
open Go.RowKit

theorem heap_ltL {w : World} {q : Nat} {o : Obj} (h : w.heap[q]? = some o) : q < w.heap.size := by
  rcases Nat.lt_or_ge q w.heap.size with c | c
  · exact c
  · rw [Array.getElem?_eq_none c] at h; cases h

set_option maxHeartbeats 4000000 in
set_option maxRecDepth 100000 in
theorem codePlain_out (k : Int) (A1 A2 : Option Addr) (n c1 m c2 : Nat) (w : World) (h : ¬ n ≤ 30 ∨ ¬ m = n) (hT : ItoaAll w) :
    Calls Tryd.prog 6 #[.int .i64 k, .slice A1 n c1, .slice A2 m c2] w fun e w' => e = .returned (.bool true) ∧ Below w.heap.size w w' := by
  have HT := Lib.hid hT
  clear hT
  by_cases h30 : n ≤ 30
  · have hm : ¬ (m : Int) = (n : Int) := by
      rcases h with h | h
      · exact absurd h30 h
      · omega
    have hi : (n : Int) ≤ 30 := by omega
    clear h
    go_enter Tryd.func6, Tryd.ntmps6
    go_wp2_with fail
    refine (known_calls _ HT.out).mono ?_
    rintro e w1 ⟨rfl, hb⟩
    have HB := Lib.hid hb
    clear hb
    go_wp2_with fail
    go_ret
    exact ⟨rfl, HB.out⟩
  · have hi : (30 : Int) < (n : Int) := by omega
    clear h
    go_enter Tryd.func6, Tryd.ntmps6
    go_wp2_with fail
    refine (known_calls _ HT.out).mono ?_
    rintro e w1 ⟨rfl, hb⟩
    have HB := Lib.hid hb
    clear hb
    go_wp2_with fail
    go_ret
    exact ⟨rfl, HB.out⟩

set_option maxHeartbeats 4000000 in
set_option maxRecDepth 100000 in
theorem codePlain_no (k : Int) (A1 A2 : Option Addr) (n c1 c2 : Nat) (w : World) (h30 : n ≤ 30) (hV : Calls Tryd.prog 21 #[.int .i64 k, .slice A1 n c1] w fun e w' => e = .returned (.bool false) ∧ w = w') (hT : ItoaAll w) :
    Calls Tryd.prog 6 #[.int .i64 k, .slice A1 n c1, .slice A2 n c2] w fun e w' => e = .returned (.bool true) ∧ Below w.heap.size w w' := by
  have HT := Lib.hid hT
  have HV := Lib.hid hV
  have hi : (n : Int) ≤ 30 := by omega
  clear hT hV h30
  go_enter Tryd.func6, Tryd.ntmps6
  go_wp2_with (first
    | (go_at_call 21; refine HV.out.mono ?_; rintro e w1 ⟨rfl, rfl⟩))
  refine (known_calls _ HT.out).mono ?_
  rintro e w1 ⟨rfl, hb⟩
  have HB := Lib.hid hb
  clear hb
  go_wp2_with fail
  go_ret
  exact ⟨rfl, HB.out⟩

theorem ls_onePl (w : World) (l : Lt) (T : TypeId) : LS (w.alloc (.cells #[.int .i64 l.kind, .int .i64 l.gate, .int .i64 l.rank, .int .i64 l.id, .int .i64 l.sign, .bool l.over] T)) (some ⟨w.heap.size, 0, none⟩) 1 [l] := by
  have h := heap_alloc_new w (.cells #[.int .i64 l.kind, .int .i64 l.gate, .int .i64 l.rank, .int .i64 l.id, .int .i64 l.sign, .bool l.over] T)
  refine ⟨rfl, fun _ => ⟨w.heap.size, 0, rfl, by simp, fun k l' hk => ?_⟩⟩
  cases k with
  | zero =>
    injection hk with hk
    subst hk
    exact ⟨Lib.cell_of_heap h 0, Lib.cell_of_heap h 1, Lib.cell_of_heap h 2, Lib.cell_of_heap h 3, Lib.cell_of_heap h 4, Lib.cell_of_heap h 5⟩
  | succ k => cases hk
theorem row_lsL {w : World} {B n c : Nat} {A : Option Addr} {L : List Lt} (h : w.ownsRow B 50 6 (.slice A n c) n (L.flatMap ltCells)) (hn : L.length = n) : LS w A n L := by
  rcases h.2 with ⟨hv, h0⟩ | ⟨g, cap, cur, hv, _⟩
  · exact ⟨hn, fun hp => by omega⟩
  · injection hv with e1 _ e3
    subst e1
    subst e3
    exact OwnL.lsR (B := B) (by unfold OwnL; rw [hn]; exact h) hn

theorem valid_word {k : Int} {xs : List Int} (h : Lw.validB k xs = true) : (0 ≤ k ∧ k ≤ 40) ∧ xs.length % 2 = 0 ∧ ∀ x, x ∈ xs → 0 ≤ x ∧ x ≤ k := by
  unfold Lw.validB at h
  simp only [Bool.and_eq_true, decide_eq_true_eq, List.all_eq_true] at h
  refine ⟨by omega, by omega, fun x hx => ?_⟩
  have := h.2 x hx
  try simp at this
  omega

/-- The code so far. -/
def PlRel (k : Int) (P : Nat) (L : List Lt) (n : Nat) (w : World) (iv : Value) (wr : World) : Prop :=
  ∃ (j : Nat) (v : Value), j ≤ n ∧ iv = .int .i64 (j : Int) ∧ wr.heap[P]? = some (.cells #[.int .i64 k, v] 33 (0, 0)) ∧ wr.ownsRow (P + 1) 50 6 v j ((L.take j).flatMap ltCells) ∧ Below w.heap.size w wr

set_option maxHeartbeats 8000000 in
set_option maxRecDepth 100000 in
theorem codePlain_main (k : Int) (A1 A2 : Option Addr) (n c1 c2 : Nat) (xs R : List Int) (w : World) (h30 : n ≤ 30) (h1 : SL w A1 n xs) (h2 : SL w A2 n R) (hv : Lw.validB k xs = true) (hT : ItoaAll w) :
    Calls Tryd.prog 6 #[.int .i64 k, .slice A1 n c1, .slice A2 n c2] w fun e w' => e = .returned (.bool true) ∧ Below w.heap.size w w' := by
  have HT := Lib.hid hT
  have HV := Lib.hid (Lw.refValid_calls k A1 n c1 xs w h1 (by unfold maxLen; omega))
  rw [hv] at HV
  have HS1 := Lib.hid h1
  have HS2 := Lib.hid h2
  have hi : (n : Int) ≤ 30 := by omega
  clear hT
  go_enter Tryd.func6, Tryd.ntmps6
  go_wp2_with (first
    | (go_at_call 21; refine HV.out.mono ?_; rintro e w1 ⟨rfl, rfl⟩))
  obtain ⟨P, hP⟩ : ∃ P, P = w.heap.size := ⟨_, rfl⟩
  obtain ⟨W0, hW0⟩ : ∃ W0, W0 = w.alloc (.cells #[.int .i64 k, .slice none 0 0] 33) := ⟨_, rfl⟩
  have HXN : Hid (xs.length = n) := h1.1
  have HRN : Hid (R.length = n) := h2.1
  have HLC : Hid ((codeL xs R).length = n) := codeL_len h1.1
  have HST : Hid (PlRel k P (codeL xs R) n w (.int .i64 0) W0) := by
    refine ⟨0, .slice none 0 0, Nat.zero_le _, rfl, ?_, World.ownsRow_nil _ _ _ _, ?_⟩
    · rw [hW0, hP]; exact heap_alloc_new w _
    · rw [hW0]; exact (Below.refl _ _).alloc (Nat.le_refl _) _
  have hPw : w.heap.size ≤ P := by omega
  rw [← hW0, ← hP]
  clear hW0 hP h1 h2 HV
  go_loopw [8] (fun iv wr => PlRel k P (codeL xs R) n w iv wr) (fun iv _ => n - (intOf iv).toNat)
  case atStart => exact HST.out
  case round =>
    obtain ⟨j, v, hj, rfl, hP, hrow, hb⟩ := hrel
    obtain ⟨Av, cv, rfl⟩ := own_form hrow
    have HP := Lib.hid hP
    have HROW := Lib.hid hrow
    have HB := Lib.hid hb
    have x0 := Lib.cell_of_heap hP 0
    have x1 := Lib.cell_of_heap hP 1
    have hPl := heap_ltL hP
    by_cases hlt : j < n
    · obtain ⟨b1, o1, g, rfl, hb1, hg, cg⟩ := (HS1.out.below hb).at_ hlt
      obtain ⟨b2, o2, r, rfl, hb2, hr, cr⟩ := (HS2.out.below hb).at_ hlt
      have hji : (j : Int) < n := by omega
      have HPS : Hid (∀ W, Calls Tryd.prog 22 #[.int .i64 g, .int .i64 r] W fun e w' => e = .returned (.agg #[.int .i64 1, .int .i64 g, .int .i64 r, .int .i64 0, .int .i64 0, .bool false]) ∧ Below W.heap.size W w') := fun W => lawPass_calls g r W
      have HTK : Hid ((codeL xs R).take (j + 1) = (codeL xs R).take j ++ [⟨1, g, r, 0, 0, false⟩]) := by
        unfold Hid
        rw [List.take_add_one, codeL_at HXN.out hlt]
        have e1 : Lw.gt xs j = g := by unfold Lw.gt; rw [List.getD_eq_getElem?_getD, hg]; rfl
        have e2 : Lw.gt R j = r := by unfold Lw.gt; rw [List.getD_eq_getElem?_getD, hr]; rfl
        unfold plL
        rw [e1, e2]
        rfl
      have HTL : Hid (((codeL xs R).take j).length = j) := by unfold Hid; rw [List.length_take, HLC.out]; omega
      have HPUSH : Hid (∀ X o w3 v3, Below wr.heap.size wr X → (X.alloc o).grownBy w3 (Value.ownBlock (.slice Av j cv)) → w3.ownsRow (P + 1) 50 6 v3 (j + 1) (((codeL xs R).take (j + 1)).flatMap ltCells) →
          w3.heap[P]? = some (.cells #[.int .i64 k, .slice Av j cv] 33 (0, 0)) ∧ PlRel k P (codeL xs R) n w (.int .i64 ((j : Int) + 1)) (w3.setCell ⟨P, 1, none⟩ v3)) := by
        intro X o w3 v3 hX hg3 ho3
        have hba : Below wr.heap.size wr (X.alloc o) := hX.alloc hX.size o
        have hsz := hba.size
        have hPk : w3.heap[P]? = some (.cells #[.int .i64 k, .slice Av j cv] 33 (0, 0)) := by
          refine (hg3.block P (by omega) (fun e => ?_)).trans ((hba.block P hPl).trans HP.out)
          have := (World.ownsRow.lt HROW.out P e.symm).1
          omega
        refine ⟨hPk, j + 1, v3, by omega, by rw [Int.natCast_add]; rfl, ?_, ?_, ?_⟩
        · simp [World.setCell, Array.getElem?_modify, hPk]
        · exact own_kept2 ho3 (fun g e => Below.heap_setCell _ _ _ g (by have h9 := (World.ownsRow.lt ho3 g e).1; show g ≠ P; omega))
        · have h8 := HB.out.size
          exact (((HB.out.trans (hba.mono h8)).grown hg3 (by omega) (fun q hq => by have := (World.ownsRow.lt HROW.out q hq).1; omega))).setCell (p := ⟨P, 1, none⟩) hPw _
      have HBG : Hid (((codeL xs R).take j).length + 1 ≤ 1000000) := by unfold Hid; rw [HTL.out]; omega
      have HRA : Hid (∀ X o, Below wr.heap.size wr X → OwnL (X.alloc o) (P + 1) (.slice Av j cv) ((codeL xs R).take j)) := by
        intro X o hX
        unfold OwnL
        rw [HTL.out]
        exact ownsRow_below HROW.out (hX.alloc hX.size o)
      have HLEN : Hid (((codeL xs R).take (j + 1)).length = j + 1) := by unfold Hid; rw [List.length_take, HLC.out]; omega
      clear hP hrow hb hg hr
      go_wp2_with fail
      go_region_law (first
        | (refine step_append_lts rfl (.tmp 38) (.tmp 48) rfl (P + 1) (.slice Av j cv) ((codeL xs R).take j) (by kernel_rfl) (HRA.out _ _ HBX.out) w2.heap.size 0 1 1 [⟨1, g, r, 0, 0, false⟩] (by kernel_rfl) (ls_onePl w2 ⟨1, g, r, 0, 0, false⟩ 50) HBG.out (by have h8 := HBX.out.size; simp; omega) ?_; intro v3 w3 hown3 hg3; rw [← HTK.out] at hown3; unfold OwnL at hown3; rw [HLEN.out] at hown3; obtain ⟨A3, c3, rfl⟩ := own_form hown3; have H3 := Lib.hid (HPUSH.out _ _ _ _ HBX.out hg3 hown3); have m0 := Lib.cell_of_heap H3.out.1 0; have m1 := Lib.cell_of_heap H3.out.1 1; have mf : w3.frozen? ⟨P, 1, none⟩ = false := (by have h1 := H3.out.1; simp [World.frozen?, h1]); have ml := heap_ltL H3.out.1; clear hown3 hg3)
        | (go_simp; go_wp2_with (first | (go_at_call 22; refine (HPS.out _).mono ?_; rintro e w2 ⟨rfl, hbp⟩; have HBX : Hid (Below wr.heap.size wr w2) := ((Below.refl wr.heap.size wr).drew).trans (hbp.mono (Nat.le_refl _)); have z1 := (HBX.out.cell (p := ⟨P, 1, none⟩) hPl).trans x1; have zl : P < w2.heap.size := Nat.lt_of_lt_of_le hPl HBX.out.size; clear hbp))))
      all_goals
        have HRR := Lib.hid H3.out.2
        clear HPUSH
        go_wp2_with fail
        go_roundw
        case rel => exact HRR.out
        case measure => simp [intOf]; omega
    · obtain rfl : j = n := by omega
      have htk : (codeL xs R).take j = codeL xs R := List.take_of_length_le (by rw [HLC.out]; exact Nat.le_refl _)
      rw [htk] at hrow
      have hls : LS wr Av j (codeL xs R) := row_lsL hrow HLC.out
      have hlb : ∀ b off, Av = some ⟨b, off, none⟩ → b < wr.heap.size := fun b off e => (World.ownsRow.lt hrow b (by rw [e]; rfl)).2
      obtain ⟨hk, he, hg⟩ := valid_word hv
      rw [HXN.out] at he
      have hpd := plain_drawn (R := R) HXN.out HRN.out hk he (by omega) hg
      have hid : ∀ l, l ∈ codeL xs R → I64 l.id := fun l hl => by
        obtain ⟨i, _, rfl⟩ := codeL_mem HXN.out hl
        exact ⟨by show -9223372036854775808 ≤ (0 : Int); decide, by show (0 : Int) ≤ 9223372036854775807; decide⟩
      have HCK : Hid (∀ W, Below wr.heap.size wr W → Calls Tryd.prog 23 #[.agg #[.int .i64 k, .slice Av j cv]] W fun e w' => e = .returned (.int .i64 (checkE k (codeL xs R))) ∧ Below W.heap.size W w') :=
        fun W hW => check_calls k Av j cv (codeL xs R) W (hls.below hW) (fun b off e => Nat.lt_of_lt_of_le (hlb b off e) hW.size) hid
      have HDR : Hid (∀ W, Below wr.heap.size wr W → Calls Tryd.prog 24 #[.slice A1 j c1, .slice A2 j c2] W fun e w' => e = .returned (.bool (decide (checkE k (codeL xs R) = 0))) ∧ Below W.heap.size W w') := by
        intro W hW
        have hW2 := HB.out.trans (hW.mono HB.out.size)
        refine (Lw.drawnR_calls A1 A2 j j c1 c2 xs R W (HS1.out.below hW2) (HS2.out.below hW2) (by omega) (by omega)).mono ?_
        rintro e w' ⟨b, rfl, hb, q, rfl⟩
        refine ⟨?_, Go.below_drewN (Below.refl _ _) q⟩
        rw [← hpd] at hb
        have : b = decide (checkE k (codeL xs R) = 0) := by rw [Bool.eq_iff_iff, decide_eq_true_iff]; exact hb
        rw [this]
      have HRD : Hid (∀ W, Below wr.heap.size wr W → Calls Tryd.prog 25 #[.slice A1 j c1] W fun e w' => e = .returned (.bool (Lw.reducedB xs)) ∧ Below W.heap.size W w') :=
        fun W hW => Lw.refReduced_calls A1 j c1 xs W (HS1.out.below (HB.out.trans (hW.mono HB.out.size))) (by unfold maxLen; omega)
      have HRK : Hid (checkE k (codeL xs R) = 0 → Lw.reducedB xs = true → ∀ W, Below wr.heap.size wr W → Calls Tryd.prog 26 #[.slice A1 j c1] W fun e w' => ∃ A c, e = .returned (.tuple #[.slice A j c, .int .i64 0]) ∧ SL w' A j R ∧ Below W.heap.size W w') := by
        intro hz hr W hW
        have h3 := (Lw.ranksM_drawn HXN.out hr).2 (hpd.1 hz)
        have e1 : Lw.rkE xs j = 0 := by
          unfold Lw.rkE
          rw [h3, hr]
          have h4 : Lw.errB 40 xs = 0 := by
            unfold Lw.reducedB at hr
            rw [Bool.and_eq_true] at hr
            unfold Lw.errB
            rw [if_neg (by rw [HXN.out]; omega), if_pos hr.1]
          rw [if_pos h4]
          rfl
        have e2 : Lw.rkR xs j = R := by unfold Lw.rkR; rw [h3]; rfl
        have h5 := Lw.ranks_calls A1 j c1 xs W (HS1.out.below (HB.out.trans (hW.mono HB.out.size))) (by unfold maxLen; omega)
        rw [e1, e2] at h5
        refine h5.mono ?_
        intro e w' h
        obtain ⟨A, c, h6, h7, _, h8⟩ := Lw.ErrPost.get_ok rfl HRN.out h
        exact ⟨A, c, h6, h7.sl, h8⟩
      have HEQ : Hid (∀ W A c, SL W A j R → Below wr.heap.size wr W → Calls Tryd.prog 10 #[.slice A j c, .slice A2 j c2] W fun e w' => e = .returned (.bool true) ∧ Below W.heap.size W w') := by
        intro W A c h6 hW
        have h7 := equalI_calls A A2 j c j c2 R R W h6 (HS2.out.below (HB.out.trans (hW.mono HB.out.size))) (by unfold maxLen; omega)
        rw [decide_eq_true rfl] at h7
        exact h7
      have HKN : Hid (∀ W, Below wr.heap.size wr W → Calls Tryd.prog 13 #[] W fun e w' => e = .returned (.bool true) ∧ Below W.heap.size W w') :=
        fun W hW => known_calls _ (HT.out.below (HB.out.trans (hW.mono HB.out.size)))
      have HBB : Hid (∀ W, Below wr.heap.size wr W → Below w.heap.size w W) := fun W hW => HB.out.trans (hW.mono HB.out.size)
      clear hrow hls hlb hid hpd hg he hk htk hP hb HS1 HS2
      obtain ⟨ce, hce⟩ : ∃ ce, checkE k (codeL xs R) = ce := ⟨_, rfl⟩
      obtain ⟨rd, hrd⟩ : ∃ rd, Lw.reducedB xs = rd := ⟨_, rfl⟩
      rw [hce] at HCK HDR HRK
      rw [hrd] at HRD HRK
      clear hce hrd
      by_cases hz : ce = 0
      · subst hz
        rw [decide_eq_true rfl] at HDR
        cases rd with
        | false =>
          go_wp2_with (first
            | (go_at_call 23; refine (HCK.out _ (Below.refl _ _)).mono ?_; rintro e w2 ⟨rfl, hb⟩; have HB2 := Lib.hid hb; clear hb)
            | (go_at_call 24; refine (HDR.out _ HB2.out).mono ?_; rintro e w3 ⟨rfl, hb⟩; have HB3 := Lib.hid (HB2.out.trans (hb.mono HB2.out.size)); clear hb)
            | (go_at_call 25; refine (HRD.out _ HB3.out).mono ?_; rintro e w4 ⟨rfl, hb⟩; have HB4 := Lib.hid (HB3.out.trans (hb.mono HB3.out.size)); clear hb)
            | (go_at_call 13; refine (HKN.out _ HB4.out).mono ?_; rintro e w5 ⟨rfl, hb⟩; have HB5 := Lib.hid (HB4.out.trans (hb.mono HB4.out.size)); clear hb))
          go_ret
          exact ⟨rfl, HBB.out _ HB5.out⟩
        | true =>
          have HRK2 := Lib.hid (HRK.out rfl rfl)
          clear HRK
          go_wp2_with (first
            | (go_at_call 23; refine (HCK.out _ (Below.refl _ _)).mono ?_; rintro e w2 ⟨rfl, hb⟩; have HB2 := Lib.hid hb; clear hb)
            | (go_at_call 24; refine (HDR.out _ HB2.out).mono ?_; rintro e w3 ⟨rfl, hb⟩; have HB3 := Lib.hid (HB2.out.trans (hb.mono HB2.out.size)); clear hb)
            | (go_at_call 25; refine (HRD.out _ HB3.out).mono ?_; rintro e w4 ⟨rfl, hb⟩; have HB4 := Lib.hid (HB3.out.trans (hb.mono HB3.out.size)); clear hb)
            | (go_at_call 26; refine (HRK2.out _ HB4.out).mono ?_; rintro e w5 ⟨A3, c3, rfl, hs3, hb⟩; have HS3 := Lib.hid hs3; have HB5 := Lib.hid (HB4.out.trans (hb.mono HB4.out.size)); clear hb hs3)
            | (go_at_call 10; refine (HEQ.out _ _ _ HS3.out HB5.out).mono ?_; rintro e w6 ⟨rfl, hb⟩; have HB6 := Lib.hid (HB5.out.trans (hb.mono HB5.out.size)); clear hb)
            | (go_at_call 13; refine (HKN.out _ HB6.out).mono ?_; rintro e w7 ⟨rfl, hb⟩; have HB7 := Lib.hid (HB6.out.trans (hb.mono HB6.out.size)); clear hb))
          go_ret
          exact ⟨rfl, HBB.out _ HB7.out⟩
      · rw [decide_eq_false hz] at HDR
        have hcz : (ce == 0) = false := by rw [beq_eq_false_iff_ne]; exact hz
        clear HRK
        go_wp2_with (first
          | (go_at_call 23; refine (HCK.out _ (Below.refl _ _)).mono ?_; rintro e w2 ⟨rfl, hb⟩; have HB2 := Lib.hid hb; clear hb)
          | (go_at_call 24; refine (HDR.out _ HB2.out).mono ?_; rintro e w3 ⟨rfl, hb⟩; have HB3 := Lib.hid (HB2.out.trans (hb.mono HB2.out.size)); clear hb)
          | (go_at_call 13; refine (HKN.out _ HB3.out).mono ?_; rintro e w5 ⟨rfl, hb⟩; have HB5 := Lib.hid (HB3.out.trans (hb.mono HB3.out.size)); clear hb))
        go_ret
        exact ⟨rfl, HBB.out _ HB5.out⟩

theorem codePlain_walk (k : Int) (A1 : Option Addr) (n c1 : Nat) (xs : List Int) (A2 : Option Addr) (m c2 : Nat) (R : List Int) (w : World) (_hk : I64 k) (h1 : SL w A1 n xs) (_hn : n ≤ maxLen) (_i1 : ∀ y, y ∈ xs → I64 y) (_z1 : (A1 = none → c1 = 0) ∧ n ≤ c1)
    (h2 : SL w A2 m R) (_hm : m ≤ maxLen) (_i2 : ∀ y, y ∈ R → I64 y) (_z2 : (A2 = none → c2 = 0) ∧ m ≤ c2) (hT : ItoaAll w) :
    Calls Tryd.prog 6 #[.int .i64 k, .slice A1 n c1, .slice A2 m c2] w fun e w' => e = .returned (.bool true) ∧ Below w.heap.size w w' := by
  by_cases h30 : n ≤ 30
  · by_cases hmn : m = n
    · subst hmn
      by_cases hv : Lw.validB k xs = true
      · exact codePlain_main k A1 A2 m c1 c2 xs R w h30 h1 h2 hv hT
      · have h3 := Lw.refValid_calls k A1 m c1 xs w h1 (by unfold maxLen; omega)
        rw [Bool.eq_false_iff.2 hv] at h3
        exact codePlain_no k A1 A2 m c1 c2 w h30 h3 hT
    · exact codePlain_out k A1 A2 n c1 m c2 w (.inr hmn) hT
  · exact codePlain_out k A1 A2 n c1 m c2 w (.inl h30) hT

end Go.Proofs.YtbbpockkafbfmaaDoor
