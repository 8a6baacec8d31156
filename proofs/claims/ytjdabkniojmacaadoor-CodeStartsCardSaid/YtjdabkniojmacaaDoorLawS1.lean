/-
  The walk of the law CodeStarts.
-/
import Derived.Test.YtjdabkniojmacaaDoorVnorm
import Derived.Test.YtjdabkniojmacaaDoorSameP
import Derived.Test.YtjdabkniojmacaaDoorLawH
import Derived.Test.YtjdabkniojmacaaDoorRefX
import Derived.Test.YtjdabkniojmacaaDoorDoorL
import Derived.Test.YtjdabkniojmacaaDoorTurnB
import Derived.Deep.RegionHeld3
namespace Go.Proofs.YtjdabkniojmacaaDoor
open Go.RowKit

/-- Names moved on cyclically. -/
def nameL (b X : Int) (l : Lt) : Lt := if l.kind = 2 then ⟨l.kind, l.gate, l.rank, (l.id + b) % X + 1, l.sign, l.over⟩ else l

theorem ids64 {f : Int} {L : List Lt} (hv : checkE f L = 0) : ∀ l, l ∈ L → I64 l.id := by
  obtain ⟨st, pt, V⟩ := valid_parts hv
  intro l hl
  have h3 := V.len
  have h4 := cntK_take_le 2 L L.length
  rw [List.take_length] at h4
  rcases V.plain l hl with c | c
  · rw [c.2.1]; constructor <;> decide
  · have h1 := pair_fine V.pair l hl c.1
    constructor <;> omega
theorem chk_ok {f : Int} {A : Option Addr} {n c : Nat} {L : List Lt} {w : World} (hv : checkE f L = 0) (hL : LS w A n L) (hA : ∀ b off, A = some ⟨b, off, none⟩ → b < w.heap.size) : ChkAt f A n c 0 w := by
  intro W hW
  have h := check_calls f A n c L W (hL.below hW) (fun b off e => Nat.lt_of_lt_of_le (hA b off e) hW.size) (ids64 hv)
  rw [hv] at h
  exact h
theorem norm_len {f : Int} {ls : List Lt} {st : OrdS} {pt : PairS} (V : ValidC f ls st pt) : (normL f ls).length = ls.length := by
  unfold normL
  rw [V.ord]
  dsimp only
  split
  · rename_i e; rw [e]; rfl
  · unfold candL; rw [renL_len, followL_len]
theorem norm_of_norm {f : Int} {ls NF : List Lt} (hv : checkE f ls = 0) (h : normL f ls = NF) : normL f NF = NF := by
  rw [← h]; exact norm_norm hv
theorem back_facts {f : Int} {L NF : List Lt} {r : Int} (hr : LastP L r) (hv : checkE f L = 0) (h0 : 0 < L.length) (hN : normL f L = NF) : checkE f (followL L r (-1)) = 0 ∧ normL f (followL L r (-1)) = NF := by
  obtain ⟨R, rfl, h1, h2, h3⟩ := hr h0
  obtain ⟨l, hl⟩ : ∃ l, L[R]? = some l := ⟨_, List.getElem?_eq_getElem h1⟩
  have hd := last_down (even_of hv h0) h1 h2 h3
  rw [← hN]
  exact ⟨valid_back hv hl (h2 l hl) hd, norm_back hv hl (h2 l hl) hd⟩
/-- What holds at the heads of the law's loop. -/
def NsRel (P R : Nat) (f : Int) (vc v : Value) (B n : Nat) (h : Lt → Lt) (ls : List Lt) (w : World) (iv : Value) (wr : World) : Prop :=
  ∃ j : Nat, j ≤ n ∧ iv = .int .i64 (j : Int) ∧ wr.heap[P]? = some (.cells #[.int .i64 f, vc] 24 (0, 0)) ∧ wr.heap[R]? = some (.cells #[.int .i64 f, v] 24 (0, 0)) ∧ wr.ownsRow B 48 6 v n ((MapL h ls j).flatMap ltCells) ∧ Below w.heap.size w wr

/-- Codes in their variables, with their letters. -/
def BxS (f : Int) (n : Nat) (w : World) (bs : List (Nat × Option Addr × Nat × List Lt)) (W : World) : Prop :=
  Below w.heap.size w W ∧ ∀ x, x ∈ bs → W.heap[x.1]? = some (.cells #[.int .i64 f, .slice x.2.1 n x.2.2.1] 24 (0, 0)) ∧ LS W x.2.1 n x.2.2.2 ∧ ∀ b off, x.2.1 = some ⟨b, off, none⟩ → b < W.heap.size
theorem BxS.below {f : Int} {n : Nat} {w W W' : World} {bs : List (Nat × Option Addr × Nat × List Lt)} (h : BxS f n w bs W) (hb : Below W.heap.size W W') : BxS f n w bs W' :=
  ⟨h.1.trans (hb.mono h.1.size), fun x hx => ⟨(hb.block _ (heap_lt (h.2 x hx).1)).trans (h.2 x hx).1, (h.2 x hx).2.1.below hb, fun b off e => Nat.lt_of_lt_of_le ((h.2 x hx).2.2 b off e) hb.size⟩⟩
theorem BxS.add {f : Int} {n : Nat} {w W : World} {bs : List (Nat × Option Addr × Nat × List Lt)} (h : BxS f n w bs W) (A : Option Addr) (c : Nat) (L : List Lt) (hL : LS W A n L) (hA : ∀ b off, A = some ⟨b, off, none⟩ → b < W.heap.size) :
    BxS f n w ((W.heap.size, A, c, L) :: bs) (W.alloc (.cells #[.int .i64 f, .slice A n c] 24)) := by
  have hb : Below W.heap.size W (W.alloc (.cells #[.int .i64 f, .slice A n c] 24)) := (Below.refl _ _).alloc (Nat.le_refl _) _
  obtain ⟨h1, h2⟩ := h.below hb
  refine ⟨h1, fun x hx => ?_⟩
  rcases List.mem_cons.1 hx with rfl | hx
  · exact ⟨heap_alloc_new W _, hL.below hb, fun b off e => Nat.lt_of_lt_of_le (hA b off e) hb.size⟩
  · exact h2 x hx
theorem own_bound {W : World} {B n c : Nat} {A : Option Addr} {xs : List Value} (h : 0 < n → W.ownsRow B 48 6 (.slice A n c) n xs) (hn : 0 < n) : ∀ b off, A = some ⟨b, off, none⟩ → b < W.heap.size := by
  intro b off e
  exact (World.ownsRow.lt (h hn) b (by rw [e]; rfl)).2

set_option maxHeartbeats 16000000 in
set_option maxRecDepth 100000 in
theorem codeStarts_main (f by_ : Int) (A : Option Addr) (n c s X : Nat) (ls : List Lt) (w : World) (hn60 : n ≤ 60) (hcn : n ≤ c) (hs : s < n) (hby : 0 ≤ by_ ∧ by_ ≤ 1000) (hX : X ≤ 1000) (hL : LS w A n ls) (hid : ∀ l, l ∈ ls → l.kind = 2 → 1 ≤ l.id ∧ l.id ≤ X)
    (NF : List Lt) (hv : checkE f ls = 0) (hNF : normL f ls = NF) (hNM : checkE f (ls.map (nameL by_ X)) = 0 ∧ normL f (ls.map (nameL by_ X)) = NF) (hA : ∀ b off, A = some ⟨b, off, none⟩ → b < w.heap.size)
    (hRC : ∀ W, Below w.heap.size w W → Calls Tryd.prog 13 #[.agg #[.int .i64 f, .slice A n c]] W fun e w' => e = .returned (.int .i64 0) ∧ Below W.heap.size W w')
    (hCP : ∀ W, Below w.heap.size w W → Calls Tryd.prog 29 #[.agg #[.int .i64 f, .slice A n c]] W fun e w' => ∃ Av cv, e = .returned (.agg #[.int .i64 f, .slice Av n cv]) ∧ w'.ownsRow W.heap.size 48 6 (.slice Av n cv) n (ls.flatMap ltCells) ∧ Below W.heap.size W w')
    (hCX : ∀ W, Below w.heap.size w W → Calls Tryd.prog 30 #[.agg #[.int .i64 f, .slice A n c]] W fun e w' => e = .returned (.int .i64 (X : Int)) ∧ Below W.heap.size W w')
    (hT : ItoaAll w) :
    Calls Tryd.prog 7 #[.agg #[.int .i64 f, .slice A n c], .int .i64 (s : Int), .int .i64 by_] w fun e w' => e = .returned (.bool true) ∧ Below w.heap.size w w' := by
  have HLN : Hid (ls.length = n) := hL.1
  have HLL := Lib.hid hL
  have HRC := Lib.hid hRC
  have HCP := Lib.hid hCP
  have HCX := Lib.hid hCX
  have HT := Lib.hid hT
  have HID := Lib.hid hid
  have HNM := Lib.hid hNM
  have HAB := Lib.hid hA
  have HVL := Lib.hid (And.intro hv hNF)
  have HNFL : Hid (NF.length = n) := by rw [← hNF]; obtain ⟨st, pt, V⟩ := valid_parts hv; exact (norm_len V).trans hL.1
  have HVF : Hid (checkE f NF = 0) := by rw [← hNF]; exact valid_norm hv
  have hle : n ≤ 1000000 := by omega
  have hn1 : n ≤ 1000 := by omega
  have HKN : Hid (∀ W, Below w.heap.size w W → Calls Tryd.prog 14 #[] W fun e w' => e = .returned (.bool true) ∧ Below W.heap.size W w') := fun W hW => known_calls W (HT.out.below hW)
  have t1 : decide ((n : Int) ≤ 60) = true := by rw [decide_eq_true_iff]; omega
  have t2 : decide (by_ < 0) = false := by rw [decide_eq_false_iff_not]; omega
  have t3 : decide (1000 < by_) = false := by rw [decide_eq_false_iff_not]; omega
  have t4 : ¬ n ≤ s := by omega
  have hsn : (s : Int) < n := by omega
  have hsN : s < n := hs
  have HSM := Lib.hid (fun W => small_calls f A n c true W t1)
  clear hRC hCP hCX hT hn60 hL hid hNM hA hv hNF
  go_enter Tryd.func7, Tryd.ntmps7
  go_wp2_with fail
  obtain ⟨W0, hW0⟩ : ∃ W0, W0 = w.alloc (.cells #[.int .i64 f, .slice A n c] 24) := ⟨_, rfl⟩
  obtain ⟨P, hP⟩ : ∃ P, P = w.heap.size := ⟨_, rfl⟩
  have HB0 : Hid (Below w.heap.size w W0) := by rw [hW0]; exact (Below.refl _ _).alloc (Nat.le_refl _) _
  have HP0 : Hid (W0.heap[P]? = some (.cells #[.int .i64 f, .slice A n c] 24 (0, 0))) := by rw [hW0, hP]; exact heap_alloc_new w _
  have HPE : Hid (P = w.heap.size) := hP
  rw [← hW0, ← hP]
  clear hW0 hP
  refine (HSM.out _).mono ?_
  rintro e w1 ⟨rfl, hb⟩
  have HB1 : Hid (Below w.heap.size w w1) := HB0.out.trans (hb.mono HB0.out.size)
  have HP1 : Hid (w1.heap[P]? = some (.cells #[.int .i64 f, .slice A n c] 24 (0, 0))) := (hb.block P (heap_lt HP0.out)).trans HP0.out
  clear hb HB0 HP0
  have a0 := Lib.cell_of_heap HP1.out 0
  have a1 := Lib.cell_of_heap HP1.out 1
  go_wp2_with fail
  refine (HRC.out _ HB1.out).mono ?_
  rintro e w2 ⟨rfl, hb⟩
  have HB2 : Hid (Below w.heap.size w w2) := HB1.out.trans (hb.mono HB1.out.size)
  have HP2 : Hid (w2.heap[P]? = some (.cells #[.int .i64 f, .slice A n c] 24 (0, 0))) := (hb.block P (heap_lt HP1.out)).trans HP1.out
  clear hb HB1 HP1 a0 a1
  have a0 := Lib.cell_of_heap HP2.out 0
  have a1 := Lib.cell_of_heap HP2.out 1
  go_wp2_with fail
  refine (HCP.out _ HB2.out).mono ?_
  rintro e w3 ⟨Av, cv, rfl, ho, hb⟩
  obtain ⟨R, hR⟩ : ∃ B, B = w3.heap.size := ⟨_, rfl⟩
  obtain ⟨V1, hV1⟩ : ∃ V, V = w3.alloc (.cells #[.int .i64 f, .slice Av n cv] 24) := ⟨_, rfl⟩
  have hbv : Below w3.heap.size w3 V1 := by rw [hV1]; exact (Below.refl _ _).alloc (Nat.le_refl _) _
  have hb2 : Below w2.heap.size w2 V1 := hb.trans (hbv.mono hb.size)
  have HB3 : Hid (Below w.heap.size w V1) := HB2.out.trans (hb2.mono HB2.out.size)
  have HP3 : Hid (V1.heap[P]? = some (.cells #[.int .i64 f, .slice A n c] 24 (0, 0))) := (hb2.block P (heap_lt HP2.out)).trans HP2.out
  have HR3 : Hid (V1.heap[R]? = some (.cells #[.int .i64 f, .slice Av n cv] 24 (0, 0))) := by rw [hV1, hR]; exact heap_alloc_new w3 _
  have HO3 := Lib.hid (ownsRow_below ho hbv)
  obtain ⟨gN, rfl⟩ : ∃ g, Av = some ⟨g, 0, none⟩ := by
    rcases ho.2 with ⟨_, h0⟩ | ⟨g, cap, cur, hv, _⟩
    · omega
    · injection hv with e1; exact ⟨g, e1⟩
  have hgP : w2.heap.size ≤ gN := (World.ownsRow.lt ho gN rfl).1
  have hPl := heap_lt HP2.out
  have HV1 := Lib.hid hV1
  have HRE := Lib.hid hR
  have hRP : P < R := by rw [hR]; exact Nat.lt_of_lt_of_le hPl hb.size
  have HGW : Hid (w.heap.size ≤ gN ∧ P < gN) := ⟨Nat.le_trans HB2.out.size hgP, Nat.lt_of_lt_of_le hPl hgP⟩
  clear a0 a1
  have a0 := Lib.cell_of_heap HP3.out 0
  have a1 := Lib.cell_of_heap HP3.out 1
  rw [hV1] at a0 a1
  clear hb ho hbv hb2 hV1 hR hgP hPl HP2
  go_wp2_with fail
  rw [← HRE.out, ← HV1.out]
  refine (HCX.out _ HB3.out).mono ?_
  rintro e w4 ⟨rfl, hb⟩
  have HB4 : Hid (Below w.heap.size w w4) := HB3.out.trans (hb.mono HB3.out.size)
  have HP4 : Hid (w4.heap[P]? = some (.cells #[.int .i64 f, .slice A n c] 24 (0, 0))) := (hb.block P (heap_lt HP3.out)).trans HP3.out
  have HR4 : Hid (w4.heap[R]? = some (.cells #[.int .i64 f, .slice (some ⟨gN, 0, none⟩) n cv] 24 (0, 0))) := (hb.block R (heap_lt HR3.out)).trans HR3.out
  have HO4 := Lib.hid (ownsRow_below HO3.out hb)
  obtain ⟨HB, hHB⟩ : ∃ B, B = w2.heap.size := ⟨_, rfl⟩
  have hHBw : w.heap.size ≤ HB := by rw [hHB]; exact HB2.out.size
  rw [← hHB] at HO4
  have HST : Hid (NsRel P R f (.slice A n c) (.slice (some ⟨gN, 0, none⟩) n cv) HB n (nameL by_ X) ls w (.int .i64 0) w4) := ⟨0, Nat.zero_le _, rfl, HP4.out, HR4.out, by rw [MapL_zero]; exact HO4.out, HB4.out⟩
  clear hb HB3 HP3 HR3 HO3 a0 a1 HO4 HP4 HR4 HB4 hHB HB2
  go_wp2_with fail
  go_loopw [9] (fun iv wr => NsRel P R f (.slice A n c) (.slice (some ⟨gN, 0, none⟩) n cv) HB n (nameL by_ X) ls w iv wr) (fun iv _ => n - (intOf iv).toNat)
  case atStart => exact HST.out
  case round =>
    obtain ⟨j, hj, rfl, q1, q2, q3, q4⟩ := hrel
    have HQ := Lib.hid (And.intro q1 (And.intro q2 (And.intro q3 q4)))
    have x0 := Lib.cell_of_heap q2 0
    have x1 := Lib.cell_of_heap q2 1
    by_cases hlt : j < n
    · obtain ⟨l, hl⟩ : ∃ l, ls[j]? = some l := ⟨_, List.getElem?_eq_getElem (by rw [HLN.out]; exact hlt)⟩
      have hgR := row_code_ne q3 q2
      have HAT := Lib.hid (letters_at (MapL_at (h := nameL by_ X) hl))
      have d0 := ownsRow_cell q3 (HAT.out 0 _ rfl)
      have d3 := ownsRow_cell q3 (HAT.out 3 _ rfl)
      have c0 : wr.cell? ⟨gN, j * 6, none⟩ = some (.int .i64 l.kind) := d0.1
      have c3 : wr.cell? ⟨gN, j * 6 + 3, none⟩ = some (.int .i64 l.id) := d3.1
      have g3 : wr.frozen? ⟨gN, j * 6 + 3, none⟩ = false := d3.2.1
      have hji : (j : Int) < n := by omega
      have HL := Lib.hid hl
      clear q1 q2 q3 q4 d0 d3
      by_cases hk : l.kind = 2
      · have hke : (l.kind == 2) = true := by rw [beq_iff_eq]; exact hk
        have hidl := HID.out l (List.mem_of_getElem? hl) hk
        have HK := Lib.hid hk
        obtain ⟨q, hq⟩ : ∃ q, (l.id + by_) % (X : Int) = q := ⟨_, rfl⟩
        have hX0 : ¬ X = 0 := by omega
        have hq1 : 0 ≤ q ∧ q < (X : Int) := by
          rw [← hq]
          exact ⟨Int.emod_nonneg _ (by omega), Int.emod_lt_of_pos _ (by omega)⟩
        have w1' : IntKind.i64.wrap (l.id + by_) = l.id + by_ := wrapI (by omega) (by omega)
        have w2' : (l.id + by_).tmod (X : Int) = q := by rw [Int.tmod_eq_emod_of_nonneg (by omega)]; exact hq
        have w3' : IntKind.i64.wrap q = q := wrapI (by omega) (by omega)
        have w4' : IntKind.i64.wrap (q + 1) = q + 1 := wrapI (by omega) (by omega)
        have hXb : ((X : Int) == 0) = false := by rw [beq_eq_false_iff_ne]; omega
        have HQQ := Lib.hid hq
        clear hk hl hq
        go_wp2_with fail
        go_region
        go_wp2_with fail
        go_roundw
        case rel =>
          obtain ⟨q1, q2, q3, q4⟩ := HQ.out
          have e1 := ownsRow_set q3 (j * 6 + 3) (.int .i64 (q + 1))
          have hh : nameL by_ X l = ⟨l.kind, l.gate, l.rank, q + 1, l.sign, l.over⟩ := by unfold nameL; rw [if_pos HK.out, HQQ.out]
          rw [letters_set3 (MapL_at HL.out), ← hh, MapL_set HL.out] at e1
          have hPg : P ≠ gN := by have := HGW.out; omega
          have hRg : R ≠ gN := fun e => hgR e.symm
          have h9 : NsRel P R f (.slice A n c) (.slice (some ⟨gN, 0, none⟩) n cv) HB n (nameL by_ X) ls w (.int .i64 ((j : Int) + 1)) (wr.setCell ⟨gN, j * 6 + 3, none⟩ (.int .i64 (q + 1))) := ⟨j + 1, by omega, by rw [Int.natCast_add]; rfl, (Below.heap_setCell _ _ _ P hPg).trans q1, (Below.heap_setCell _ _ _ R hRg).trans q2, e1, q4.setCell (p := ⟨gN, j * 6 + 3, none⟩) HGW.out.1 _⟩
          obtain ⟨j9, g1, g2, g3, g4, g5, g6⟩ := h9
          exact ⟨j9, g1, g2, g3, g4, g5, g6.drew⟩
        case measure => simp [intOf]; omega
      · have hke : (l.kind == 2) = false := by rw [beq_eq_false_iff_ne]; exact hk
        have HK := Lib.hid hk
        clear hk hl
        go_wp2_with fail
        go_roundw
        case rel => exact ⟨j + 1, by omega, by rw [Int.natCast_add]; rfl, HQ.out.1, HQ.out.2.1, by rw [MapL_same HL.out (by unfold nameL; rw [if_neg HK.out])]; exact HQ.out.2.2.1, HQ.out.2.2.2⟩
        case measure => simp [intOf]; omega
    · obtain rfl : n = j := by omega
      have hM := MapL_all (nameL by_ X) ls
      rw [HLN.out] at hM
      rw [hM] at q3
      obtain ⟨NL, hNL⟩ : ∃ NL, NL = ls.map (nameL by_ X) := ⟨_, rfl⟩
      rw [← hNL] at q3
      have hln : NL.length = n := by rw [hNL, List.length_map]; exact HLN.out
      have HZ0 : Hid (BxS f n w [(P, A, c, ls), (R, some ⟨gN, 0, none⟩, cv, NL)] wr) := by
        refine ⟨q4, fun x hx => ?_⟩
        rcases List.mem_cons.1 hx with rfl | hx
        · exact ⟨q1, HLL.out.below q4, fun b off e => Nat.lt_of_lt_of_le (HAB.out b off e) q4.size⟩
        · rw [List.mem_singleton] at hx
          subst hx
          exact ⟨q2, row_ls q3 hln, own_bound (fun _ => q3) (by omega)⟩
      have HNL := Lib.hid (row_ls q3 hln)
      have HLNL := Lib.hid hln
      have HVN : Hid (checkE f NL = 0 ∧ normL f NL = NF) := by rw [hNL]; exact HNM.out
      clear q1 q2 q3 q4 hM hln hNL
      go_wp2_with fail
      refine (back_calls f (some ⟨gN, 0, none⟩) n cv NL wr HNL.out (by omega) (checkE_all HVN.out.1).2.2.1 (chk_ok HVN.out.1 (HZ0.out.2 (R, some ⟨gN, 0, none⟩, cv, NL) (by simp)).2.1 (HZ0.out.2 (R, some ⟨gN, 0, none⟩, cv, NL) (by simp)).2.2)).mono ?_
      rintro e u1 ⟨r, hr, gB, rfl, ho, hb⟩
      obtain ⟨BL, hBL⟩ : ∃ BL, BL = followL NL r (-1) := ⟨_, rfl⟩
      rw [← hBL] at ho
      have hbln : BL.length = n := by rw [hBL, followL_len]; exact HLNL.out
      have HVB : Hid (checkE f BL = 0 ∧ normL f BL = NF) := by
        rw [hBL]
        exact back_facts hr HVN.out.1 (by rw [HLNL.out]; omega) HVN.out.2
      unfold OwnL at ho
      rw [hbln] at ho
      obtain ⟨X1, hX1⟩ : ∃ B, B = u1.heap.size := ⟨_, rfl⟩
      obtain ⟨U1, hU1⟩ : ∃ V, V = u1.alloc (.cells #[.int .i64 f, .slice (some ⟨gB, 0, none⟩) n n] 24) := ⟨_, rfl⟩
      have HZ1 := Lib.hid ((HZ0.out.below hb).add (some ⟨gB, 0, none⟩) n BL (row_ls ho hbln) (own_bound (fun _ => ho) (by omega)))
      rw [← hU1, ← hX1] at HZ1
      have HUE1 := Lib.hid hU1
      have HXE1 := Lib.hid hX1
      have a0 := Lib.cell_of_heap (HZ1.out.2 (P, A, c, ls) (by simp)).1 0
      have a1 := Lib.cell_of_heap (HZ1.out.2 (P, A, c, ls) (by simp)).1 1
      rw [hU1] at a0 a1
      clear ho hb hbln hBL hr x0 x1 HZ0 hU1 hX1
      go_wp2_with fail
      rw [← HXE1.out, ← HUE1.out]
      refine (normal_ok f A n c ls U1 (HZ1.out.2 (P, A, c, ls) (by simp)).2.1 (HZ1.out.2 (P, A, c, ls) (by simp)).2.2 (ids64 HVL.out.1) HVL.out.1).mono ?_
      rintro e u2 ⟨Ax, cx, rfl, ho, hb⟩
      rw [HVL.out.2] at ho
      obtain ⟨X2, hX⟩ : ∃ B, B = u2.heap.size := ⟨_, rfl⟩
      obtain ⟨U2, hU⟩ : ∃ V, V = u2.alloc (.cells #[.int .i64 f, .slice Ax n cx] 24) := ⟨_, rfl⟩
      have HZ2 := Lib.hid ((HZ1.out.below hb).add Ax cx NF (OkN.ls ho HNFL.out) (own_bound ho (by omega)))
      rw [← hU, ← hX] at HZ2
      have HUE2 := Lib.hid hU
      have HXE2 := Lib.hid hX
      clear a0 a1
      have a00 := Lib.cell_of_heap (HZ2.out.2 (X2, Ax, cx, NF) (by simp)).1 0
      have a01 := Lib.cell_of_heap (HZ2.out.2 (X2, Ax, cx, NF) (by simp)).1 1
      rw [hU] at a00 a01
      clear ho hb HZ1 hU hX
      go_wp2_with fail
      rw [← HXE2.out, ← HUE2.out]
      refine (normal_ok f Ax n cx NF U2 (HZ2.out.2 (X2, Ax, cx, NF) (by simp)).2.1 (HZ2.out.2 (X2, Ax, cx, NF) (by simp)).2.2 (ids64 HVF.out) HVF.out).mono ?_
      rintro e u3 ⟨Ay, cy, rfl, ho, hb⟩
      rw [norm_of_norm HVL.out.1 HVL.out.2] at ho
      obtain ⟨X3, hX⟩ : ∃ B, B = u3.heap.size := ⟨_, rfl⟩
      obtain ⟨U3, hU⟩ : ∃ V, V = u3.alloc (.cells #[.int .i64 f, .slice Ay n cy] 24) := ⟨_, rfl⟩
      have HZ3 := Lib.hid ((HZ2.out.below hb).add Ay cy NF (OkN.ls ho HNFL.out) (own_bound ho (by omega)))
      rw [← hU, ← hX] at HZ3
      have HUE3 := Lib.hid hU
      have HXE3 := Lib.hid hX
      clear a00 a01
      have a00 := Lib.cell_of_heap (HZ3.out.2 (X2, Ax, cx, NF) (by simp)).1 0
      have a01 := Lib.cell_of_heap (HZ3.out.2 (X2, Ax, cx, NF) (by simp)).1 1
      rw [hU] at a00 a01
      have a10 := Lib.cell_of_heap (HZ3.out.2 (X3, Ay, cy, NF) (by simp)).1 0
      have a11 := Lib.cell_of_heap (HZ3.out.2 (X3, Ay, cy, NF) (by simp)).1 1
      rw [hU] at a10 a11
      have a20 := Lib.cell_of_heap (HZ3.out.2 (P, A, c, ls) (by simp)).1 0
      have a21 := Lib.cell_of_heap (HZ3.out.2 (P, A, c, ls) (by simp)).1 1
      rw [hU] at a20 a21
      have a30 := Lib.cell_of_heap (HZ3.out.2 (R, some ⟨gN, 0, none⟩, cv, NL) (by simp)).1 0
      have a31 := Lib.cell_of_heap (HZ3.out.2 (R, some ⟨gN, 0, none⟩, cv, NL) (by simp)).1 1
      rw [hU] at a30 a31
      have a40 := Lib.cell_of_heap (HZ3.out.2 (X1, some ⟨gB, 0, none⟩, n, BL) (by simp)).1 0
      have a41 := Lib.cell_of_heap (HZ3.out.2 (X1, some ⟨gB, 0, none⟩, n, BL) (by simp)).1 1
      rw [hU] at a40 a41
      clear ho hb HZ2 hU hX
      go_wp2_with fail
      rw [← HXE3.out, ← HUE3.out]
      refine (codeEq_yes f Ax Ay n n cx cy NF U3 (HZ3.out.2 (X2, Ax, cx, NF) (by simp)).2.1 (HZ3.out.2 (X3, Ay, cy, NF) (by simp)).2.1 hle).mono ?_
      rintro e u4 ⟨rfl, hb⟩
      have HZ4 := Lib.hid (HZ3.out.below hb)
      clear hb HZ3 a00 a01 a10 a11 a20 a21 a30 a31 a40 a41
      have a00 := Lib.cell_of_heap (HZ4.out.2 (P, A, c, ls) (by simp)).1 0
      have a01 := Lib.cell_of_heap (HZ4.out.2 (P, A, c, ls) (by simp)).1 1
      have a10 := Lib.cell_of_heap (HZ4.out.2 (R, some ⟨gN, 0, none⟩, cv, NL) (by simp)).1 0
      have a11 := Lib.cell_of_heap (HZ4.out.2 (R, some ⟨gN, 0, none⟩, cv, NL) (by simp)).1 1
      have a20 := Lib.cell_of_heap (HZ4.out.2 (X1, some ⟨gB, 0, none⟩, n, BL) (by simp)).1 0
      have a21 := Lib.cell_of_heap (HZ4.out.2 (X1, some ⟨gB, 0, none⟩, n, BL) (by simp)).1 1
      go_wp2_with fail
      refine (lawEqual_calls f f (some ⟨gN, 0, none⟩) A n n cv c NF NF u4 hn1 HNFL.out HNFL.out rfl rfl (fun W hW => by have hz := (HZ4.out.below hW).2 (R, some ⟨gN, 0, none⟩, cv, NL) (by simp); have h := normal_ok f (some ⟨gN, 0, none⟩) n cv NL W hz.2.1 hz.2.2 (ids64 HVN.out.1) HVN.out.1; rw [HVN.out.2] at h; exact h) (fun W hW => by have hz := (HZ4.out.below hW).2 (P, A, c, ls) (by simp); have h := normal_ok f A n c ls W hz.2.1 hz.2.2 (ids64 HVL.out.1) HVL.out.1; rw [HVL.out.2] at h; exact h)).mono ?_
      rintro e u5 ⟨rfl, hb⟩
      have HZ5 := Lib.hid (HZ4.out.below hb)
      clear hb HZ4 a00 a01 a10 a11 a20 a21
      have a00 := Lib.cell_of_heap (HZ5.out.2 (P, A, c, ls) (by simp)).1 0
      have a01 := Lib.cell_of_heap (HZ5.out.2 (P, A, c, ls) (by simp)).1 1
      have a10 := Lib.cell_of_heap (HZ5.out.2 (X1, some ⟨gB, 0, none⟩, n, BL) (by simp)).1 0
      have a11 := Lib.cell_of_heap (HZ5.out.2 (X1, some ⟨gB, 0, none⟩, n, BL) (by simp)).1 1
      go_wp2_with fail
      refine (lawEqual_calls f f (some ⟨gB, 0, none⟩) A n n n c NF NF u5 hn1 HNFL.out HNFL.out rfl rfl (fun W hW => by have hz := (HZ5.out.below hW).2 (X1, some ⟨gB, 0, none⟩, n, BL) (by simp); have h := normal_ok f (some ⟨gB, 0, none⟩) n n BL W hz.2.1 hz.2.2 (ids64 HVB.out.1) HVB.out.1; rw [HVB.out.2] at h; exact h) (fun W hW => by have hz := (HZ5.out.below hW).2 (P, A, c, ls) (by simp); have h := normal_ok f A n c ls W hz.2.1 hz.2.2 (ids64 HVL.out.1) HVL.out.1; rw [HVL.out.2] at h; exact h)).mono ?_
      rintro e u6 ⟨rfl, hb⟩
      have HZ6 := Lib.hid (HZ5.out.below hb)
      clear hb HZ5 a00 a01 a10 a11
      have a00 := Lib.cell_of_heap (HZ6.out.2 (P, A, c, ls) (by simp)).1 0
      have a01 := Lib.cell_of_heap (HZ6.out.2 (P, A, c, ls) (by simp)).1 1
      go_wp2_with fail
      refine (start_ok f A n c s ls u6 (HZ6.out.2 (P, A, c, ls) (by simp)).2.1 (HZ6.out.2 (P, A, c, ls) (by simp)).2.2 (ids64 HVL.out.1) HVL.out.1 hsN).mono ?_
      rintro e u7 (⟨hall, gS, rfl, ho, hb⟩ | ⟨hno, rfl, hb⟩)
      · obtain ⟨SL, hSL⟩ : ∃ SL, SL = followL ls (s : Int) 1 := ⟨_, rfl⟩
        obtain ⟨l0, hl0⟩ : ∃ l, ls[s]? = some l := ⟨_, List.getElem?_eq_getElem (by rw [HLN.out]; exact hsN)⟩
        have hkd := hall l0 hl0
        have HVS : Hid (checkE f SL = 0 ∧ normL f SL = NF) := by
          rw [hSL]
          exact ⟨valid_start HVL.out.1 hl0 hkd.1 hkd.2, (norm_start HVL.out.1 hl0 hkd.1 hkd.2).trans HVL.out.2⟩
        have hsl : SL.length = n := by rw [hSL, followL_len]; exact HLN.out
        have HSLN := Lib.hid hsl
        have HROT : Hid (ls.drop s ++ ls.take s = SL) := by rw [hSL]; exact rot_follow (by rw [HLN.out]; exact hsN)
        rw [← hSL] at ho
        obtain ⟨X4, hX⟩ : ∃ B, B = u7.heap.size := ⟨_, rfl⟩
        obtain ⟨U7, hU⟩ : ∃ V, V = u7.alloc (.cells #[.int .i64 f, .slice (some ⟨gS, 0, none⟩) n n] 24) := ⟨_, rfl⟩
        have HZ7 := Lib.hid ((HZ6.out.below hb).add (some ⟨gS, 0, none⟩) n SL (row_ls ho hsl) (own_bound (fun _ => ho) (by omega)))
        rw [← hU, ← hX] at HZ7
        have HUE7 := Lib.hid hU
        have HXE7 := Lib.hid hX
        have HKD := Lib.hid hkd
        have HL0 := Lib.hid hl0
        obtain ⟨b, off, l, rfl, hbl, hl, c0, c1, c2, c3, c4, c5⟩ := (HZ7.out.2 (P, A, c, ls) (by simp)).2.1.at_ hsN
        rw [hl0] at hl
        injection hl with hl
        subst hl
        clear a00 a01
        have a00 := Lib.cell_of_heap (HZ7.out.2 (P, some ⟨b, off, none⟩, c, ls) (by simp)).1 0
        have a01 := Lib.cell_of_heap (HZ7.out.2 (P, some ⟨b, off, none⟩, c, ls) (by simp)).1 1
        have a10 := Lib.cell_of_heap (HZ7.out.2 (X4, some ⟨gS, 0, none⟩, n, SL) (by simp)).1 0
        have a11 := Lib.cell_of_heap (HZ7.out.2 (X4, some ⟨gS, 0, none⟩, n, SL) (by simp)).1 1
        rw [hU] at a00 a01 a10 a11 c0
        have hke : (l0.kind != 1) = false := by rw [bne_eq_false_iff_eq]; exact hkd.1
        clear ho hb hall hkd hl0 hSL hsl HZ6 hU hX c1 c2 c3 c4 c5
        go_wp2_with fail
        rw [← HXE7.out, ← HUE7.out]
        refine (down_calls f (some ⟨b, off, none⟩) n c ls s U7 (HZ7.out.2 (P, some ⟨b, off, none⟩, c, ls) (by simp)).2.1 hle (by omega)).mono ?_
        rintro e u8 ⟨rfl, hb⟩
        rw [HKD.out.2]
        have HZ8 := Lib.hid (HZ7.out.below hb)
        clear hb HZ7 a00 a01 a10 a11 c0
        have a00 := Lib.cell_of_heap (HZ8.out.2 (P, some ⟨b, off, none⟩, c, ls) (by simp)).1 0
        have a01 := Lib.cell_of_heap (HZ8.out.2 (P, some ⟨b, off, none⟩, c, ls) (by simp)).1 1
        have a10 := Lib.cell_of_heap (HZ8.out.2 (X4, some ⟨gS, 0, none⟩, n, SL) (by simp)).1 0
        have a11 := Lib.cell_of_heap (HZ8.out.2 (X4, some ⟨gS, 0, none⟩, n, SL) (by simp)).1 1
        go_wp2_with fail
        refine (same_ok f f (some ⟨gS, 0, none⟩) (some ⟨b, off, none⟩) n n n c NF NF u8 hn1 HNFL.out HNFL.out (fun W hW => by have hz := (HZ8.out.below hW).2 (X4, some ⟨gS, 0, none⟩, n, SL) (by simp); have h := normal_ok f (some ⟨gS, 0, none⟩) n n SL W hz.2.1 hz.2.2 (ids64 HVS.out.1) HVS.out.1; rw [HVS.out.2] at h; exact h) (fun W hW => by have hz := (HZ8.out.below hW).2 (P, some ⟨b, off, none⟩, c, ls) (by simp); have h := normal_ok f (some ⟨b, off, none⟩) n c ls W hz.2.1 hz.2.2 (ids64 HVL.out.1) HVL.out.1; rw [HVL.out.2] at h; exact h)).mono ?_
        rintro e u9 ⟨bb, rfl, hbb, hb⟩
        have hbt : bb = true := hbb.2 ⟨rfl, rfl⟩
        subst hbt
        have HZ9 := Lib.hid (HZ8.out.below hb)
        clear hb hbb HZ8 a00 a01 a10 a11
        go_wp2_with fail
        have HKP : Hid (∀ w', Below u9.heap.size u9 w' → TwS P X4 f f (.slice (some ⟨b, off, none⟩) n c) (.slice (some ⟨gS, 0, none⟩) n n) u9 w') := fun w' h => TwS.of (HZ9.out.2 (P, some ⟨b, off, none⟩, c, ls) (by simp)).1 (HZ9.out.2 (X4, some ⟨gS, 0, none⟩, n, SL) (by simp)).1 h
        have HEQ : Hid (∀ V, Below u9.heap.size u9 V → Calls Tryd.prog 32 #[.agg #[.int .i64 f, .slice (some ⟨gS, 0, none⟩) n n], .agg #[.int .i64 f, .slice (some ⟨b, off, none⟩) n c]] V fun e w' => e = .returned (.bool true) ∧ Below V.heap.size V w') := fun V hV =>
          lawEqual_calls f f (some ⟨gS, 0, none⟩) (some ⟨b, off, none⟩) n n n c NF NF V hn1 HNFL.out HNFL.out rfl rfl (fun W hW => by have hz := (HZ9.out.below (hV.trans (hW.mono hV.size))).2 (X4, some ⟨gS, 0, none⟩, n, SL) (by simp); have h := normal_ok f (some ⟨gS, 0, none⟩) n n SL W hz.2.1 hz.2.2 (ids64 HVS.out.1) HVS.out.1; rw [HVS.out.2] at h; exact h) (fun W hW => by have hz := (HZ9.out.below (hV.trans (hW.mono hV.size))).2 (P, some ⟨b, off, none⟩, c, ls) (by simp); have h := normal_ok f (some ⟨b, off, none⟩) n c ls W hz.2.1 hz.2.2 (ids64 HVL.out.1) HVL.out.1; rw [HVL.out.2] at h; exact h)
        have HSR : Hid (∀ V, Below u9.heap.size u9 V → Calls Tryd.prog 35 #[.agg #[.int .i64 f, .slice (some ⟨b, off, none⟩) n c], .int .i64 (s : Int)] V (OkC f n SL V)) := fun V hV => by
          have h := refStart_calls f b off n c s ls V ((HZ9.out.2 (P, some ⟨b, off, none⟩, c, ls) (by simp)).2.1.below hV) hcn hn1 hsN
          rw [HROT.out] at h
          exact h
        have HBW := Lib.hid HZ9.out.1
        have HLS9 := Lib.hid (HZ9.out.2 (X4, some ⟨gS, 0, none⟩, n, SL) (by simp)).2.1
        go_region_held3 (fun w' => w'.cell? ⟨P, 0, none⟩ = some (.int .i64 f) ∧ w'.cell? ⟨P, 1, none⟩ = some (.slice (some ⟨b, off, none⟩) n c) ∧ w'.cell? ⟨X4, 0, none⟩ = some (.int .i64 f) ∧ w'.cell? ⟨X4, 1, none⟩ = some (.slice (some ⟨gS, 0, none⟩) n n) ∧ Below u9.heap.size u9 w')
          (first
            | exact HKP.out _ (Below.refl _ _).drew
            | exact HKP.out _ ((TwS.last (P := P) (Q := X4) (f1 := f) (f2 := f) (v1 := .slice (some ⟨b, off, none⟩) n c) (v2 := .slice (some ⟨gS, 0, none⟩) n n) (V := u9) (by assumption)).trans (hbw.mono (TwS.last (P := P) (Q := X4) (f1 := f) (f2 := f) (v1 := .slice (some ⟨b, off, none⟩) n c) (v2 := .slice (some ⟨gS, 0, none⟩) n n) (V := u9) (by assumption)).size)))
          (first
            | (go_at_call 32; (with_reducible refine (HEQ.out _ ?hbx).mono ?_); (case hbx => exact (TwS.last (P := P) (Q := X4) (f1 := f) (f2 := f) (v1 := .slice (some ⟨b, off, none⟩) n c) (v2 := .slice (some ⟨gS, 0, none⟩) n n) (V := u9) (by assumption))); rintro e w2 ⟨rfl, hbw⟩)
            | (go_at_call 35; (with_reducible refine (HSR.out _ ?hbx).mono ?_); (case hbx => exact (TwS.last (P := P) (Q := X4) (f1 := f) (f2 := f) (v1 := .slice (some ⟨b, off, none⟩) n c) (v2 := .slice (some ⟨gS, 0, none⟩) n n) (V := u9) (by assumption))); rintro e w3 ⟨A9, c9, rfl, hrow9, hbw⟩; have HE9 := Lib.hid (row_ls hrow9 HSLN.out); clear hrow9)
            | (go_at_call 24; (with_reducible refine (codeEq_yes f (some ⟨gS, 0, none⟩) A9 n n n c9 SL _ ?hl HE9.out hle).mono ?_); (case hl => exact HLS9.out.below (TwS.last (P := P) (Q := X4) (f1 := f) (f2 := f) (v1 := .slice (some ⟨b, off, none⟩) n c) (v2 := .slice (some ⟨gS, 0, none⟩) n n) (V := u9) (by assumption))); rintro e w4 ⟨rfl, hbw⟩)
            | (go_at_call 14; (with_reducible refine (HKN.out _ ?hbx).mono ?_); (case hbx => exact HBW.out.trans ((TwS.last (P := P) (Q := X4) (f1 := f) (f2 := f) (v1 := .slice (some ⟨b, off, none⟩) n c) (v2 := .slice (some ⟨gS, 0, none⟩) n n) (V := u9) (by assumption)).mono HBW.out.size)); rintro e w5 ⟨rfl, hbw⟩))
        have hS : TwS P X4 f f (.slice (some ⟨b, off, none⟩) n c) (.slice (some ⟨gS, 0, none⟩) n n) u9 w5 := by assumption
        have HF : Hid (Below w.heap.size w w5) := HBW.out.trans (hS.last.mono HBW.out.size)
        clear hS
        go_wp2_with fail
        go_ret
        exact ⟨rfl, HF.out⟩
      · obtain ⟨X4, hX⟩ : ∃ B, B = u7.heap.size := ⟨_, rfl⟩
        obtain ⟨U7, hU⟩ : ∃ V, V = u7.alloc (.cells #[.int .i64 0, .slice none 0 0] 24) := ⟨_, rfl⟩
        have hbu : Below u7.heap.size u7 U7 := by rw [hU]; exact (Below.refl _ _).alloc (Nat.le_refl _) _
        have HZ7 := Lib.hid ((HZ6.out.below hb).below hbu)
        have HS7 : Hid (U7.heap[X4]? = some (.cells #[.int .i64 0, .slice none 0 0] 24 (0, 0))) := by rw [hU, hX]; exact heap_alloc_new u7 _
        have HUE7 := Lib.hid hU
        have HXE7 := Lib.hid hX
        have HNOA := Lib.hid hno
        obtain ⟨b, off, l, rfl, hbl, hl, c0, c1, c2, c3, c4, c5⟩ := (HZ7.out.2 (P, A, c, ls) (by simp)).2.1.at_ hsN
        have HL0 := Lib.hid hl
        clear a00 a01
        have a00 := Lib.cell_of_heap (HZ7.out.2 (P, some ⟨b, off, none⟩, c, ls) (by simp)).1 0
        have a01 := Lib.cell_of_heap (HZ7.out.2 (P, some ⟨b, off, none⟩, c, ls) (by simp)).1 1
        rw [hU] at a00 a01 c0
        clear hb hno hl HZ6 hU hX hbu c1 c2 c3 c4 c5
        have s0 := Lib.cell_of_heap HS7.out 0
        have s1 := Lib.cell_of_heap HS7.out 1
        rw [HUE7.out] at s0 s1
        by_cases hk : l.kind = 1
        · have hke : (l.kind != 1) = false := by rw [bne_eq_false_iff_eq]; exact hk
          have hdf : downB ls s = false := by
            cases hd : downB ls s with
            | false => rfl
            | true => exact absurd (fun l' hl' => by rw [HL0.out] at hl'; injection hl' with hl'; rw [← hl']; exact ⟨hk, hd⟩) HNOA.out
          have HDF := Lib.hid hdf
          clear hk hdf
          go_wp2_with fail
          rw [← HXE7.out, ← HUE7.out]
          refine (down_calls f (some ⟨b, off, none⟩) n c ls s U7 (HZ7.out.2 (P, some ⟨b, off, none⟩, c, ls) (by simp)).2.1 hle (by omega)).mono ?_
          rintro e u8 ⟨rfl, hb⟩
          rw [HDF.out]
          have HZ8 := Lib.hid (HZ7.out.below hb)
          have hs8 := (hb.block X4 (heap_lt HS7.out)).trans HS7.out
          clear hb a00 a01 c0 s0 s1
          have s0 := Lib.cell_of_heap hs8 0
          have s1 := Lib.cell_of_heap hs8 1
          clear hs8
          go_wp2_with fail
          refine (codeEq_yes 0 none none 0 0 0 0 [] u8 (LS.nil _ _) (LS.nil _ _) (by omega)).mono ?_
          rintro e u9 ⟨rfl, hb⟩
          have HZ9 := Lib.hid (HZ8.out.below hb)
          clear hb
          go_wp2_with fail
          refine (HKN.out _ HZ9.out.1).mono ?_
          rintro e u10 ⟨rfl, hb⟩
          have HF : Hid (Below w.heap.size w u10) := HZ9.out.1.trans (hb.mono HZ9.out.1.size)
          clear hb
          go_wp2_with fail
          go_ret
          exact ⟨rfl, HF.out⟩
        · have hke : (l.kind != 1) = true := by rw [bne_iff_ne]; exact hk
          clear hk
          go_wp2_with fail
          rw [← HUE7.out]
          refine (codeEq_yes 0 none none 0 0 0 0 [] U7 (LS.nil _ _) (LS.nil _ _) (by omega)).mono ?_
          rintro e u9 ⟨rfl, hb⟩
          have HZ9 := Lib.hid (HZ7.out.below hb)
          clear hb
          go_wp2_with fail
          refine (HKN.out _ HZ9.out.1).mono ?_
          rintro e u10 ⟨rfl, hb⟩
          have HF : Hid (Below w.heap.size w u10) := HZ9.out.1.trans (hb.mono HZ9.out.1.size)
          clear hb
          go_wp2_with fail
          go_ret
          exact ⟨rfl, HF.out⟩

set_option maxHeartbeats 8000000 in
set_option maxRecDepth 100000 in
theorem codeStarts_big (f : Int) (A : Option Addr) (n c : Nat) (s b : Int) (w : World) (hn : ¬ n ≤ 60) (hT : ItoaAll w) :
    Calls Tryd.prog 7 #[.agg #[.int .i64 f, .slice A n c], .int .i64 s, .int .i64 b] w fun e w' => e = .returned (.bool true) ∧ Below w.heap.size w w' := by
  have HT := Lib.hid hT
  have t1 : decide ((n : Int) ≤ 60) = false := by rw [decide_eq_false_iff_not]; omega
  have HSM := Lib.hid (fun W => small_calls f A n c false W t1)
  clear hT hn
  go_enter Tryd.func7, Tryd.ntmps7
  go_wp2_with fail
  obtain ⟨W0, hW0⟩ : ∃ W0, W0 = w.alloc (.cells #[.int .i64 f, .slice A n c] 24) := ⟨_, rfl⟩
  have HB0 : Hid (Below w.heap.size w W0) := by rw [hW0]; exact (Below.refl _ _).alloc (Nat.le_refl _) _
  have HP0 : Hid (W0.heap[w.heap.size]? = some (.cells #[.int .i64 f, .slice A n c] 24 (0, 0))) := by rw [hW0]; exact heap_alloc_new w _
  rw [← hW0]
  clear hW0
  refine (HSM.out _).mono ?_
  rintro e w1 ⟨rfl, hb⟩
  have HB1 : Hid (Below w.heap.size w w1) := HB0.out.trans (hb.mono HB0.out.size)
  have HP1 : Hid (w1.heap[w.heap.size]? = some (.cells #[.int .i64 f, .slice A n c] 24 (0, 0))) := (hb.block _ (heap_lt HP0.out)).trans HP0.out
  clear hb HB0 HP0
  go_wp2_with fail
  refine (known_calls _ (HT.out.below HB1.out)).mono ?_
  rintro e w2 ⟨rfl, hb⟩
  have HB2 : Hid (Below w.heap.size w w2) := HB1.out.trans (hb.mono HB1.out.size)
  clear hb
  go_wp2_with fail
  go_ret
  exact ⟨rfl, HB2.out⟩

set_option maxHeartbeats 8000000 in
set_option maxRecDepth 100000 in
theorem codeStarts_bad (f : Int) (A : Option Addr) (n c : Nat) (s b : Int) (ce : Int) (w : World) (hn : n ≤ 60) (hz : ce ≠ 0) (hRC : ∀ W, Below w.heap.size w W → Calls Tryd.prog 13 #[.agg #[.int .i64 f, .slice A n c]] W fun e w' => e = .returned (.int .i64 ce) ∧ Below W.heap.size W w') (hT : ItoaAll w) :
    Calls Tryd.prog 7 #[.agg #[.int .i64 f, .slice A n c], .int .i64 s, .int .i64 b] w fun e w' => e = .returned (.bool true) ∧ Below w.heap.size w w' := by
  have HT := Lib.hid hT
  have HRC := Lib.hid hRC
  have t1 : decide ((n : Int) ≤ 60) = true := by rw [decide_eq_true_iff]; omega
  have HSM := Lib.hid (fun W => small_calls f A n c true W t1)
  have hzb : (ce != 0) = true := by simp [hz]
  clear hT hn hRC
  go_enter Tryd.func7, Tryd.ntmps7
  go_wp2_with fail
  obtain ⟨W0, hW0⟩ : ∃ W0, W0 = w.alloc (.cells #[.int .i64 f, .slice A n c] 24) := ⟨_, rfl⟩
  have HB0 : Hid (Below w.heap.size w W0) := by rw [hW0]; exact (Below.refl _ _).alloc (Nat.le_refl _) _
  have HP0 : Hid (W0.heap[w.heap.size]? = some (.cells #[.int .i64 f, .slice A n c] 24 (0, 0))) := by rw [hW0]; exact heap_alloc_new w _
  rw [← hW0]
  clear hW0
  refine (HSM.out _).mono ?_
  rintro e w1 ⟨rfl, hb⟩
  have HB1 : Hid (Below w.heap.size w w1) := HB0.out.trans (hb.mono HB0.out.size)
  have HP1 : Hid (w1.heap[w.heap.size]? = some (.cells #[.int .i64 f, .slice A n c] 24 (0, 0))) := (hb.block _ (heap_lt HP0.out)).trans HP0.out
  clear hb HB0 HP0
  have a0 := Lib.cell_of_heap HP1.out 0
  have a1 := Lib.cell_of_heap HP1.out 1
  go_wp2_with fail
  refine (HRC.out _ HB1.out).mono ?_
  rintro e w2 ⟨rfl, hb⟩
  have HB2 : Hid (Below w.heap.size w w2) := HB1.out.trans (hb.mono HB1.out.size)
  clear hb a0 a1
  go_wp2_with fail
  refine (known_calls _ (HT.out.below HB2.out)).mono ?_
  rintro e w3 ⟨rfl, hb⟩
  have HB3 : Hid (Below w.heap.size w w3) := HB2.out.trans (hb.mono HB2.out.size)
  clear hb
  go_wp2_with fail
  go_ret
  exact ⟨rfl, HB3.out⟩


set_option maxHeartbeats 8000000 in
set_option maxRecDepth 100000 in
theorem codeStarts_out (f : Int) (A : Option Addr) (n c : Nat) (s b : Int) (w : World) (hn : n ≤ 60) (hout : s < 0 ∨ (n : Int) ≤ s ∨ b < 0 ∨ 1000 < b) (hRC : ∀ W, Below w.heap.size w W → Calls Tryd.prog 13 #[.agg #[.int .i64 f, .slice A n c]] W fun e w' => e = .returned (.int .i64 0) ∧ Below W.heap.size W w') (hT : ItoaAll w) :
    Calls Tryd.prog 7 #[.agg #[.int .i64 f, .slice A n c], .int .i64 s, .int .i64 b] w fun e w' => e = .returned (.bool true) ∧ Below w.heap.size w w' := by
  have HT := Lib.hid hT
  have HRC := Lib.hid hRC
  have t1 : decide ((n : Int) ≤ 60) = true := by rw [decide_eq_true_iff]; omega
  have HSM := Lib.hid (fun W => small_calls f A n c true W t1)
  clear hT hn hRC
  go_enter Tryd.func7, Tryd.ntmps7
  go_wp2_with fail
  obtain ⟨W0, hW0⟩ : ∃ W0, W0 = w.alloc (.cells #[.int .i64 f, .slice A n c] 24) := ⟨_, rfl⟩
  have HB0 : Hid (Below w.heap.size w W0) := by rw [hW0]; exact (Below.refl _ _).alloc (Nat.le_refl _) _
  have HP0 : Hid (W0.heap[w.heap.size]? = some (.cells #[.int .i64 f, .slice A n c] 24 (0, 0))) := by rw [hW0]; exact heap_alloc_new w _
  rw [← hW0]
  clear hW0
  refine (HSM.out _).mono ?_
  rintro e w1 ⟨rfl, hb⟩
  have HB1 : Hid (Below w.heap.size w w1) := HB0.out.trans (hb.mono HB0.out.size)
  have HP1 : Hid (w1.heap[w.heap.size]? = some (.cells #[.int .i64 f, .slice A n c] 24 (0, 0))) := (hb.block _ (heap_lt HP0.out)).trans HP0.out
  clear hb HB0 HP0
  have a0 := Lib.cell_of_heap HP1.out 0
  have a1 := Lib.cell_of_heap HP1.out 1
  go_wp2_with fail
  refine (HRC.out _ HB1.out).mono ?_
  rintro e w2 ⟨rfl, hb⟩
  have HB2 : Hid (Below w.heap.size w w2) := HB1.out.trans (hb.mono HB1.out.size)
  have HP2 : Hid (w2.heap[w.heap.size]? = some (.cells #[.int .i64 f, .slice A n c] 24 (0, 0))) := (hb.block _ (heap_lt HP1.out)).trans HP1.out
  clear hb a0 a1
  have a1 := Lib.cell_of_heap HP2.out 1
  by_cases h1 : s < 0
  · have e1 : decide (s < 0) = true := by rw [decide_eq_true_iff]; exact h1
    clear hout h1
    go_wp2_with fail
    refine (known_calls _ (HT.out.below HB2.out)).mono ?_
    rintro e w3 ⟨rfl, hb⟩
    have HB3 : Hid (Below w.heap.size w w3) := HB2.out.trans (hb.mono HB2.out.size)
    clear hb
    go_wp2_with fail
    go_ret
    exact ⟨rfl, HB3.out⟩


  · have e1 : decide (s < 0) = false := by rw [decide_eq_false_iff_not]; exact h1
    by_cases h2 : (n : Int) ≤ s
    · have e2 : decide ((n : Int) ≤ s) = true := by rw [decide_eq_true_iff]; exact h2
      clear hout h1 h2
      go_wp2_with fail
      refine (known_calls _ (HT.out.below HB2.out)).mono ?_
      rintro e w3 ⟨rfl, hb⟩
      have HB3 : Hid (Below w.heap.size w w3) := HB2.out.trans (hb.mono HB2.out.size)
      clear hb
      go_wp2_with fail
      go_ret
      exact ⟨rfl, HB3.out⟩


    · have e2 : decide ((n : Int) ≤ s) = false := by rw [decide_eq_false_iff_not]; exact h2
      by_cases h3 : b < 0
      · have e3 : decide (b < 0) = true := by rw [decide_eq_true_iff]; exact h3
        clear hout h1 h2 h3
        go_wp2_with fail
        refine (known_calls _ (HT.out.below HB2.out)).mono ?_
        rintro e w3 ⟨rfl, hb⟩
        have HB3 : Hid (Below w.heap.size w w3) := HB2.out.trans (hb.mono HB2.out.size)
        clear hb
        go_wp2_with fail
        go_ret
        exact ⟨rfl, HB3.out⟩


      · have e3 : decide (b < 0) = false := by rw [decide_eq_false_iff_not]; exact h3
        have e4 : decide (1000 < b) = true := by rw [decide_eq_true_iff]; omega
        clear hout h1 h2 h3
        go_wp2_with fail
        refine (known_calls _ (HT.out.below HB2.out)).mono ?_
        rintro e w3 ⟨rfl, hb⟩
        have HB3 : Hid (Below w.heap.size w w3) := HB2.out.trans (hb.mono HB2.out.size)
        clear hb
        go_wp2_with fail
        go_ret
        exact ⟨rfl, HB3.out⟩



theorem name_ren {f b : Int} {ls : List Lt} {X : Nat} (hv : checkE f ls = 0) (hX : cntK 2 ls / 2 = (X : Int)) : Ren ls (nameL b X) (fun v => (v + b) % (X : Int) + 1) := by
  obtain ⟨st, pt, V⟩ := valid_parts hv
  have hid := fun l (hl : l ∈ ls) (hk : l.kind = 2) => pair_fine V.pair l hl hk
  refine ⟨fun l _ hk => by unfold nameL; rw [if_pos hk], fun l _ hk => by unfold nameL; rw [if_neg hk], fun l o hl ho kl ko e => ?_, fun l hl hk => ?_⟩
  · have h1 := hid l hl kl
    have h2 := hid o ho ko
    rw [hX] at h1 h2
    have e1 : (l.id + b) % (X : Int) = (o.id + b) % (X : Int) := by
      have e' : (l.id + b) % (X : Int) + 1 = (o.id + b) % (X : Int) + 1 := e
      omega
    have e2 := Int.emod_emod_of_dvd (l.id + b) (Int.dvd_refl (X : Int))
    have e3 : (l.id + b - (o.id + b)) % (X : Int) = 0 := Int.emod_eq_emod_iff_emod_sub_eq_zero.1 e1
    rw [show l.id + b - (o.id + b) = l.id - o.id by omega] at e3
    rcases Int.lt_trichotomy l.id o.id with q | q | q
    · have e4 : (o.id - l.id) % (X : Int) = 0 := by
        have := Int.emod_eq_emod_iff_emod_sub_eq_zero.1 e1.symm
        rw [show o.id + b - (l.id + b) = o.id - l.id by omega] at this
        exact this
      rw [Int.emod_eq_of_lt (by omega) (by omega)] at e4
      omega
    · exact q
    · rw [Int.emod_eq_of_lt (by omega) (by omega)] at e3
      omega
  · have h1 := hid l hl hk
    rw [hX] at h1 ⊢
    have a1 := Int.emod_nonneg (l.id + b) (show (X : Int) ≠ 0 by omega)
    have a2 := Int.emod_lt_of_pos (l.id + b) (show (0 : Int) < X by omega)
    show 1 ≤ (l.id + b) % (X : Int) + 1 ∧ (l.id + b) % (X : Int) + 1 ≤ X
    omega

theorem codeStarts_walk (f : Int) (A : Option Addr) (n c : Nat) (ls : List Lt) (s b : Int) (w : World) (_hf : I64 f) (hL : LS w A n ls) (_hn : n ≤ maxLen) (_hI : ∀ l, l ∈ ls → LtAll l) (hz : A = none → c = 0) (hs : n ≤ c) (hA : ∀ b off, A = some ⟨b, off, none⟩ → b < w.heap.size) (hsp : ∀ a, A = some a → a.spot = none) (_hs : I64 s) (_hb : I64 b) (hT : ItoaAll w) :
    Calls Tryd.prog 7 #[.agg #[.int .i64 f, .slice A n c], .int .i64 s, .int .i64 b] w fun e w' => e = .returned (.bool true) ∧ Below w.heap.size w w' := by
  by_cases hn : n ≤ 60
  · have hRC : ∀ W, Below w.heap.size w W → Calls Tryd.prog 13 #[.agg #[.int .i64 f, .slice A n c]] W fun e w' => e = .returned (.int .i64 (checkE f ls)) ∧ Below W.heap.size W w' :=
      fun W hW => refCheck_full f A n c ls W (hL.below hW)
    by_cases hv : checkE f ls = 0
    · rw [hv] at hRC
      by_cases hout : s < 0 ∨ (n : Int) ≤ s ∨ b < 0 ∨ 1000 < b
      · exact codeStarts_out f A n c s b w hn hout hRC hT
      · obtain ⟨st, pt, V⟩ := valid_parts hv
        obtain ⟨X, hX⟩ : ∃ X : Nat, cntK 2 ls / 2 = (X : Int) := ⟨(cntK 2 ls / 2).toNat, by have := cntK_nonneg 2 ls; omega⟩
        have hXb : X ≤ 1000 := by
          have h4 := cntK_take_le 2 ls ls.length
          rw [List.take_length] at h4
          have := V.len
          omega
        obtain ⟨sn, rfl⟩ : ∃ sn : Nat, s = (sn : Int) := ⟨s.toNat, by omega⟩
        have R := name_ren (b := b) hv hX
        refine codeStarts_main f b A n c sn X ls w hn hs (by omega) (by omega) hXb hL (fun l hl hk => ?_) (normL f ls) hv rfl ⟨R.valid hv, norm_ren R hv⟩ hA hRC (fun W hW => refCopy2 f A n c ls W (hL.below hW) hz hsp (by omega)) (fun W hW => ?_) hT
        · have h1 := pair_fine V.pair l hl hk
          rw [hX] at h1
          omega
        · have h := refCrossings_calls f A n c ls W (hL.below hW) (by omega)
          rw [hX] at h
          exact h
    · exact codeStarts_bad f A n c s b (checkE f ls) w hn hv hRC hT
  · exact codeStarts_big f A n c s b w hn hT

end Go.Proofs.YtjdabkniojmacaaDoor
