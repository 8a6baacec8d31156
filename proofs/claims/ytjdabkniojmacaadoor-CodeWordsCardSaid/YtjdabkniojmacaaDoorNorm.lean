/-
  The walk of Normal on a valid code; Same, with an error.
-/
import Derived.Test.YtjdabkniojmacaaDoorRenm
import Derived.Test.YtjdabkniojmacaaDoorKn3
import Derived.Test.YtjdabkniojmacaaDoorAxM
namespace Go.Proofs.YtjdabkniojmacaaDoor
open Go.RowKit

theorem OwnL.lsN {w : World} {B gL n cp : Nat} {L : List Lt} (h : OwnL w B (.slice (some ⟨gL, 0, none⟩) n cp) L) (hn : L.length = n) : LS w (some ⟨gL, 0, none⟩) n L := by
  subst hn
  refine ⟨rfl, fun _ => ⟨gL, 0, rfl, (World.ownsRow.lt h gL rfl).2, fun k l hk => ?_⟩⟩
  have c : ∀ i x, (ltCells l)[i]? = some x → w.cell? ⟨gL, k * 6 + i, none⟩ = some x := fun i x hx => (ownsRow_cell h (letters_at hk i x hx)).1
  rw [Nat.zero_add]
  exact ⟨c 0 _ rfl, c 1 _ rfl, c 2 _ rfl, c 3 _ rfl, c 4 _ rfl, c 5 _ rfl⟩

/-- What Normal leaves of a valid code with letters. -/
def NormPost (f : Int) (n : Nat) (ls : List Lt) (w : World) (e : Ending) (w' : World) : Prop :=
  ∃ st pt gL cp, ordM ls (numP f ls) n n = some st ∧ pairM ls (cntK 2 ls / 2) n n = some pt ∧ e = .returned (.tuple #[.agg #[.int .i64 f, .slice (some ⟨gL, 0, none⟩) n cp], .int .i64 0]) ∧
    OwnL w' w.heap.size (.slice (some ⟨gL, 0, none⟩) n cp) (renL (followL ls ((st.ax.getD 0 0 : Nat) : Int) (if (aboveL ls).getD (st.ax.getD 0 0) false = true then -1 else 1))) ∧ Below w.heap.size w w'

set_option maxHeartbeats 4000000 in
set_option maxRecDepth 100000 in
theorem normal_calls (f : Int) (A : Option Addr) (n c : Nat) (ls : List Lt) (w : World) (hL : LS w A n ls) (hA : ∀ b off, A = some ⟨b, off, none⟩ → b < w.heap.size) (hI : ∀ l, l ∈ ls → I64 l.id) (hz : checkE f ls = 0) (hn : 0 < n)
    (hid : ∀ (q : Nat) (step : Int), q < ls.length → (step = 1 ∨ step = -1) → ∀ l, l ∈ followL ls (q : Int) step → l.kind = 2 → 0 ≤ l.id ∧ l.id ≤ cntK 2 (followL ls (q : Int) step) / 2) :
    Calls Tryd.prog 22 #[.agg #[.int .i64 f, .slice A n c]] w (NormPost f n ls w) := by
  have hll := hL.1
  subst hll
  have HFL : Hid (∀ W first step, Below w.heap.size w W → (0 ≤ first ∧ first < (ls.length : Int)) → (step = 1 ∨ step = -1) → Calls Tryd.prog 67 #[.agg #[.int .i64 f, .slice A ls.length c], .int .i64 first, .int .i64 step] W (EachPost f (followL ls first step) W)) :=
    fun W first step hW h1 h2 => follow_calls f A ls.length c ls first step W (hL.below hW) (by have := (checkE_zero hz).1; omega) (fun _ => h1) h2
  have HRN : Hid (∀ W gL (q : Nat) step, q < ls.length → (step = 1 ∨ step = -1) → LS W (some ⟨gL, 0, none⟩) ls.length (followL ls (q : Int) step) → Calls Tryd.prog 66 #[.agg #[.int .i64 f, .slice (some ⟨gL, 0, none⟩) ls.length ls.length]] W (RenPost f ls.length (followL ls (q : Int) step) W)) :=
    fun W gL q step h1 h2 h => renamed_calls f gL 0 ls.length ls.length _ W h (by have := (checkE_zero hz).1; omega) hn (hid q step h1 h2)
  have hdr : ∀ W, Below w.heap.size w W → Calls Tryd.prog 58 #[.agg #[.int .i64 f, .slice A ls.length c]] W fun e w' => ∃ P ga x s o st pt, e = .returned (.tuple #[.pointer (some ⟨P, 0, none⟩), .int .i64 0]) ∧ (dmOf f ls st pt).good ∧
      DMem (dmOf f ls st pt) w' P f A (some ⟨ga, 0, none⟩) (some ⟨x, 0, none⟩) (some ⟨s, 0, none⟩) (some ⟨o, 0, none⟩) c ls.length (numP f ls) ls.length ls.length ∧ ordM ls (numP f ls) ls.length ls.length = some st ∧ pairM ls (cntK 2 ls / 2) ls.length ls.length = some pt ∧
      closedB ls = true ∧ Below W.heap.size W w' := by
    intro W hW
    refine (draw_calls f A ls.length c ls W (hL.below hW) (fun b off e => Nat.lt_of_lt_of_le (hA b off e) hW.size) hI).mono ?_
    rintro e w' ⟨hb, ⟨hne, _⟩ | ⟨P, _, _, _, rfl, h1, h2, h3, h4, ga, x, s, o, st, pt, g1, g2, g3, g4, e1, e2, e3, h, o1, o2, o3, o4⟩⟩
    · exact absurd hz hne
    · exact ⟨P, ga, x, s, o, st, pt, rfl, dmOf_good h1 h2 h3 h4 hn e1 e2, ⟨h.dia, (hL.below hW).below hb, BL.of_own o1, SL.of_ownV o2, SL.of_ownV o3, SL.of_ownV o4⟩, e1, e2, h3, hb⟩
  have HDR := Lib.hid hdr
  have hnn : ¬ ls.length = 0 := by omega
  have hnb : ((ls.length : Int) == 0) = false := by rw [beq_eq_false_iff_ne]; omega
  have HN := Lib.hid hn
  clear hL hA hI hz hid hdr
  go_enter Tryd.func22, Tryd.ntmps22
  go_wp2_with fail
  obtain ⟨W0, hW0⟩ : ∃ W0, W0 = (w.alloc (.cells #[.int .i64 f, .slice A ls.length c] 24)).alloc (.cells #[.int .i64 0, .slice none 0 0] 24) := ⟨_, rfl⟩
  have HF0 := Lib.hid (two_mem w _ _ W0 hW0)
  rw [← hW0]
  clear hW0
  refine (HDR.out _ HF0.out.2.2.2).mono ?_
  rintro e w1 ⟨P, ga, x, s, o, st, pt, rfl, hg, hmem, ho, hp, hcl, hb1⟩
  have HM1 := Lib.hid (two_next HF0.out hb1)
  have HOP := Lib.hid (And.intro ho hp)
  have hm0 : 0 < numP f ls := by
    obtain ⟨l, hl⟩ : ∃ l, ls[0]? = some l := ⟨_, List.getElem?_eq_getElem HN.out⟩
    have hk : l.kind = 1 := by
      cases ls with
      | nil => cases hl
      | cons a r =>
        injection hl with hl
        subst hl
        unfold closedB at hcl
        simp [isPass] at hcl
        exact hcl.1
    have := (hg.spa 0 l hl hk).1
    exact Nat.lt_of_le_of_lt (Nat.zero_le _) this
  have hax : st.ax.getD 0 0 < ls.length := hg.ok.axb 0 hm0
  obtain ⟨hdia, _, hbl, hxl, _, _⟩ := hmem
  obtain ⟨hPd, d0, d1, d2, d3, d4, d5⟩ := hdia
  obtain ⟨_, _, xv, hA1, _, hxv, m0⟩ := hxl.at_ (k := 0) hm0
  injection hA1 with hA1
  injection hA1 with q1 q2
  subst q1
  subst q2
  have hxlen : 0 < st.ax.length := by
    have h1 := hg.ok.ax
    show 0 < (dmOf f ls st pt).ax.length
    rw [h1]; exact hm0
  rw [map_ofNat_at (by exact hxlen)] at hxv
  injection hxv with hxv
  have hxv' : ((st.ax.getD 0 0 : Nat) : Int) = xv := hxv
  obtain ⟨fi, hfi⟩ : ∃ fi, st.ax.getD 0 0 = fi := ⟨_, rfl⟩
  rw [hfi] at hxv' hax
  rw [← hxv'] at m0
  obtain ⟨_, _, ab, hA2, _, hab, m1⟩ := hbl.at_ (k := fi) hax
  injection hA2 with hA2
  injection hA2 with q1 q2
  subst q1
  subst q2
  have hab2 : (aboveL ls).getD fi false = ab := by
    have h1 : (aboveL ls)[fi]? = some ab := hab
    rw [List.getD_eq_getElem?_getD, h1]; rfl
  rw [Nat.zero_add] at m0 m1
  have hmi : (0 : Int) < ((numP f ls : Nat) : Int) := by omega
  have hfii : (fi : Int) < (ls.length : Int) := by omega
  have c0 := Lib.cell_of_heap HM1.out.1 0
  have c1 := Lib.cell_of_heap HM1.out.1 1
  have hPl : w.heap.size < w1.heap.size := by have := HM1.out.2.2.1; omega
  have HFI := Lib.hid hfi
  have HAXB := Lib.hid hax
  have HAB := Lib.hid hab2
  have HFL1 : Hid (∀ step, (step = 1 ∨ step = -1) → Calls Tryd.prog 67 #[.agg #[.int .i64 f, .slice A ls.length c], .int .i64 (fi : Int), .int .i64 step] w1 (EachPost f (followL ls (fi : Int) step) w1)) :=
    fun step h => HFL.out w1 (fi : Int) step HM1.out.2.2.2 ⟨by omega, hfii⟩ h
  obtain ⟨mm, hmm⟩ : ∃ mm, numP f ls = mm := ⟨_, rfl⟩
  have HMM := Lib.hid hmm
  have d3' : w1.cell? ⟨P, 3, none⟩ = some (.slice (some ⟨x, 0, none⟩) mm mm) := by rw [← hmm]; exact d3
  have d2' : w1.cell? ⟨P, 2, none⟩ = some (.slice (some ⟨ga, 0, none⟩) ls.length ls.length) := d2
  rw [hmm] at hmi
  clear hg hb1 hbl hxl ho hp hcl hm0 hxlen hxv hab hfi hab2 hxv' d2 d3 hmm d0 d1 d4 d5
  cases ab with
  | true =>
    go_wp2_with (first
      | (go_at_call 67; refine (HFL1.out (-1) (.inr rfl)).mono ?_; rintro e w2 ⟨gL, rfl, ho2, hb2⟩; rw [followL_len] at ho2 ⊢; have HO2 := Lib.hid ho2; have HB2 := Lib.hid hb2; clear ho2 hb2)
      | (go_at_call 66; refine (HRN.out w2 gL fi (-1) HAXB.out (.inr rfl) (OwnL.lsN HO2.out (followL_len _ _ _))).mono ?_; rintro e w3 ⟨gR, cp, rfl, ho3, hb3⟩; have HO3 := Lib.hid ho3; have HM3 := Lib.hid (two_next (two_next HM1.out HB2.out) hb3); have r0 := Lib.cell_of_heap HM3.out.2.1 0; have r1 := Lib.cell_of_heap HM3.out.2.1 1; have rf : ∀ x, w3.frozen? ⟨w.heap.size + 1, x, none⟩ = false := (by intro x; have h1 := HM3.out.2.1; simp [World.frozen?, h1]); clear ho3 hb3))
    obtain ⟨X, hX⟩ : ∃ X, X = (w3.setCell ⟨w.heap.size + 1, 0, none⟩ (.int .i64 f)).setCell ⟨w.heap.size + 1, 1, none⟩ (.slice (some ⟨gR, 0, none⟩) ls.length cp) := ⟨_, rfl⟩
    obtain ⟨k0, k1, hXB, _, hXK⟩ := res_end HM3.out.2.1 (by omega) HM3.out.2.2.2 _ _ hX
    rw [← hX]
    have hgR := (World.ownsRow.lt HO3.out gR rfl).1
    have hw2 := (two_next HM1.out HB2.out).2.2.1
    refine bodyPost_ret (v := .tuple #[.agg #[.int .i64 f, .slice (some ⟨gR, 0, none⟩) ls.length cp], .int .i64 0]) (by simp [results, Tryd.results22, go_sem, k0, k1]) rfl ⟨st, pt, gR, cp, HOP.out.1, HOP.out.2, rfl, ?_, hXB⟩
    rw [HFI.out, HAB.out, if_pos rfl]
    exact own_base' (own_kept2' HO3.out (fun g e => hXK g (by have e' : gR = g := (by simpa [Value.ownBlock] using e); omega))) (by omega)
  | false =>
    go_wp2_with (first
      | (go_at_call 67; refine (HFL1.out 1 (.inl rfl)).mono ?_; rintro e w2 ⟨gL, rfl, ho2, hb2⟩; rw [followL_len] at ho2 ⊢; have HO2 := Lib.hid ho2; have HB2 := Lib.hid hb2; clear ho2 hb2)
      | (go_at_call 66; refine (HRN.out w2 gL fi 1 HAXB.out (.inl rfl) (OwnL.lsN HO2.out (followL_len _ _ _))).mono ?_; rintro e w3 ⟨gR, cp, rfl, ho3, hb3⟩; have HO3 := Lib.hid ho3; have HM3 := Lib.hid (two_next (two_next HM1.out HB2.out) hb3); have r0 := Lib.cell_of_heap HM3.out.2.1 0; have r1 := Lib.cell_of_heap HM3.out.2.1 1; have rf : ∀ x, w3.frozen? ⟨w.heap.size + 1, x, none⟩ = false := (by intro x; have h1 := HM3.out.2.1; simp [World.frozen?, h1]); clear ho3 hb3))
    obtain ⟨X, hX⟩ : ∃ X, X = (w3.setCell ⟨w.heap.size + 1, 0, none⟩ (.int .i64 f)).setCell ⟨w.heap.size + 1, 1, none⟩ (.slice (some ⟨gR, 0, none⟩) ls.length cp) := ⟨_, rfl⟩
    obtain ⟨k0, k1, hXB, _, hXK⟩ := res_end HM3.out.2.1 (by omega) HM3.out.2.2.2 _ _ hX
    rw [← hX]
    have hgR := (World.ownsRow.lt HO3.out gR rfl).1
    have hw2 := (two_next HM1.out HB2.out).2.2.1
    refine bodyPost_ret (v := .tuple #[.agg #[.int .i64 f, .slice (some ⟨gR, 0, none⟩) ls.length cp], .int .i64 0]) (by simp [results, Tryd.results22, go_sem, k0, k1]) rfl ⟨st, pt, gR, cp, HOP.out.1, HOP.out.2, rfl, ?_, hXB⟩
    rw [HFI.out, HAB.out, if_neg (by decide)]
    exact own_base' (own_kept2' HO3.out (fun g e => hXK g (by have e' : gR = g := (by simpa [Value.ownBlock] using e); omega))) (by omega)

theorem followL_mem {ls : List Lt} {first step : Int} {l : Lt} (h : l ∈ followL ls first step) : l ∈ ls ∨ l = zeroLt := by
  unfold followL at h
  obtain ⟨j, _, rfl⟩ := List.mem_map.1 h
  rw [List.getD_eq_getElem?_getD]
  cases hh : ls[stepM ls.length first step j]? with
  | none => right; rfl
  | some x => left; exact List.mem_of_getElem? hh

/-- Normal of the law's circle. -/
theorem circNormal_calls (A : Option Addr) (c : Nat) (w : World) (hL : LS w A 2 [⟨1, 0, 1, 0, 0, false⟩, ⟨1, 1, 1, 0, 0, false⟩]) (hA : ∀ b off, A = some ⟨b, off, none⟩ → b < w.heap.size) :
    Calls Tryd.prog 22 #[.agg #[.int .i64 2, .slice A 2 c]] w fun e w' => (∃ g cp, e = .returned (.tuple #[.agg #[.int .i64 2, .slice (some ⟨g, 0, none⟩) 2 cp], .int .i64 0])) ∧ Below w.heap.size w w' := by
  refine (normal_calls 2 A 2 c (circL 0 1) w hL hA circ_ids circle_ok (by omega) (fun first step _ _ l hl hk => ?_)).mono ?_
  · rcases followL_mem hl with h | h
    · have : l = passLt 0 1 ∨ l = passLt 1 1 := by simpa [circL] using h
      rcases this with rfl | rfl <;> cases hk
    · rw [h] at hk; cases hk
  · rintro e w' ⟨_, _, g, cp, _, _, rfl, _, hb⟩
    exact ⟨⟨g, cp, rfl⟩, hb⟩

set_option maxHeartbeats 4000000 in
/-- Same of the law's circle and of a code with an error. -/
theorem same_early (f : Int) (A : Option Addr) (n c : Nat) (ce : Int) (A8 : Option Addr) (c8 : Nat) (w : World) (hz : ce ≠ 0) (hL8 : LS w A8 2 [⟨1, 0, 1, 0, 0, false⟩, ⟨1, 1, 1, 0, 0, false⟩]) (hA8 : ∀ b off, A8 = some ⟨b, off, none⟩ → b < w.heap.size) (hD : DrawAt f A n c ce w) :
    Calls Tryd.prog 27 #[.agg #[.int .i64 2, .slice A8 2 c8], .agg #[.int .i64 f, .slice A n c]] w fun e w' => e = .returned (.tuple #[.bool false, .int .i64 ce]) ∧ Below w.heap.size w w' := by
  have HN1 : Hid (∀ V, Below w.heap.size w V → Calls Tryd.prog 22 #[.agg #[.int .i64 2, .slice A8 2 c8]] V fun e w' => (∃ g cp, e = .returned (.tuple #[.agg #[.int .i64 2, .slice (some ⟨g, 0, none⟩) 2 cp], .int .i64 0])) ∧ Below V.heap.size V w') :=
    fun V hV => circNormal_calls A8 c8 V (hL8.below hV) (fun b off e => Nat.lt_of_lt_of_le (hA8 b off e) hV.size)
  have HN2 : Hid (∀ V, Below w.heap.size w V → Calls Tryd.prog 22 #[.agg #[.int .i64 f, .slice A n c]] V (ErrZ ce V)) :=
    fun V hV => normal_early f A n c ce V hz (fun U hU => hD U (hV.trans (hU.mono hV.size)))
  have hzb : (ce != 0) = true := by rw [bne_iff_ne]; exact hz
  clear hL8 hA8 hD hz
  go_enter Tryd.func27, Tryd.ntmps27
  go_wp2_with fail
  obtain ⟨W0, hW0⟩ : ∃ W0, W0 = (w.alloc (.cells #[.int .i64 2, .slice A8 2 c8] 24)).alloc (.cells #[.int .i64 f, .slice A n c] 24) := ⟨_, rfl⟩
  have HF0 := Lib.hid (two_mem w _ _ W0 hW0)
  rw [← hW0]
  clear hW0
  refine (HN1.out _ HF0.out.2.2.2).mono ?_
  rintro e w1 ⟨⟨g, cp, rfl⟩, hb1⟩
  have HM1 := Lib.hid (two_next HF0.out hb1)
  have HM1A := Lib.hid (two_next HM1.out ((Below.refl w1.heap.size w1).alloc (Nat.le_refl _) (.cells #[.int .i64 2, .slice (some ⟨g, 0, none⟩) 2 cp] 24)))
  have a0 := Lib.cell_of_heap HM1A.out.2.1 0
  have a1 := Lib.cell_of_heap HM1A.out.2.1 1
  clear hb1
  go_wp2_with fail
  refine (HN2.out _ HM1A.out.2.2.2).mono ?_
  rintro e w2 ⟨rfl, hb2⟩
  have HB : Hid (Below w.heap.size w (w2.alloc (.cells #[.int .i64 0, .slice none 0 0] 24))) := by
    have h1 := HM1A.out.2.2.2.trans (hb2.mono HM1A.out.2.2.2.size)
    exact h1.alloc h1.size _
  clear hb2 a0 a1
  go_wp2_with fail
  go_ret2
  exact ⟨rfl, HB.out⟩

end Go.Proofs.YtjdabkniojmacaaDoor
