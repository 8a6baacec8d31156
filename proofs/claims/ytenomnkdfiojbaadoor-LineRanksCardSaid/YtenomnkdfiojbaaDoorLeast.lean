/-
  The walks of line.least and line.Normal.
-/
import Derived.Test.YtenomnkdfiojbaaDoorCompare
namespace Go.Proofs.YtenomnkdfiojbaaDoor
open Go.RowKit

theorem OwnI.mono {w : World} {B B' : Nat} {v : Value} {xs : List Int} (h : OwnI w B v xs) (hB : B' ≤ B) : OwnI w B' v xs := by
  refine ⟨h.1, ?_⟩
  rcases h.2 with hn | ⟨g, cap, cur, hv, hg, r⟩
  · exact .inl hn
  · exact .inr ⟨g, cap, cur, hv, by omega, r⟩

/-- What a list holds that is filled from the front. -/
def fillL (f : Nat → Int) (n j : Nat) : List Int := (List.range n).map fun i => if i < j then f i else 0
theorem fillL_length (f : Nat → Int) (n j : Nat) : (fillL f n j).length = n := by simp [fillL]
theorem fillL_zero (f : Nat → Int) (n : Nat) : fillL f n 0 = List.replicate n 0 := by
  apply List.ext_getElem
  · simp [fillL]
  · intro i h1 h2; simp [fillL]
theorem fillL_full (f : Nat → Int) (n : Nat) : fillL f n n = (List.range n).map f := by
  apply List.ext_getElem
  · simp [fillL]
  · intro i h1 h2
    have : i < n := by simpa [fillL] using h1
    simp [fillL, this]
theorem fillL_set (f : Nat → Int) (n j : Nat) : (fillL f n j).set j (f j) = fillL f n (j + 1) := by
  apply List.ext_getElem
  · simp [fillL]
  · intro i h1 h2
    have hi : i < n := by simpa [fillL] using h1
    rw [List.getElem_set]
    by_cases e : j = i
    · subst e; simp [fillL]
    · rw [if_neg e]
      simp only [fillL, List.getElem_map, List.getElem_range]
      by_cases q : i < j
      · rw [if_pos q, if_pos (by omega)]
      · rw [if_neg q, if_neg (by omega)]

def BestRel (xs : List Int) (n : Nat) (W0 : World) (st i : Value) (wr : World) : Prop :=
  ∃ j : Nat, j ≤ n ∧ i = .int .i64 j ∧ st = .int .i64 (Ln.bestTo xs j : Nat) ∧ Below W0.heap.size W0 wr
def FillRel (f : Nat → Int) (n : Nat) (W0 : World) (B g : Nat) (i : Value) (wr : World) : Prop :=
  ∃ j : Nat, j ≤ n ∧ i = .int .i64 j ∧ OwnI wr B (.slice (some ⟨g, 0, none⟩) n n) (fillL f n j) ∧ Below W0.heap.size W0 wr

set_option maxHeartbeats 1000000 in
set_option maxRecDepth 100000 in
theorem least_calls (A : Option Addr) (n cap : Nat) (xs : List Int) (w : World) (h : SL w A n xs) (hn : n ≤ 400) :
    Calls Tryd.prog 45 #[.slice A n cap] w fun e w' => ∃ v, e = .returned v ∧ OwnI w' w.heap.size v (Ln.least xs) ∧ Below w.heap.size w w' := by
  have HL := Lib.hid h.1
  have hmf : ∀ (fn : Fn) (first cap : Array Value) (w : World), (Instr.makeFunc fn first cap).run Tryd.prog w = .ok (.func fn first cap) w := fun _ _ _ _ => rfl
  obtain ⟨W0, hW0⟩ : ∃ W0, W0 = w.alloc (.cells #[.slice A n cap] 22) := ⟨_, rfl⟩
  have hbox : W0.cell? ⟨w.heap.size, 0, none⟩ = some (.slice A n cap) := by rw [hW0]; exact (Lib.cell_of_heap (heap_alloc_new w _) 0).trans rfl
  have hz : W0.heap.size = w.heap.size + 1 := by rw [hW0]; simp
  have hsl : SL W0 A n xs := by rw [hW0]; exact h.alloc _
  have hbw : Below w.heap.size w W0 := by rw [hW0]; exact (Below.refl _ _).alloc (Nat.le_refl _) _
  have HW0 := Lib.hid hW0
  have HZ := Lib.hid hz
  clear hW0 hz
  go_enter Tryd.func45, Tryd.ntmps45
  go_wp2_with fail
  rw [← HW0.out]
  go_loopw [4, 11] (fun st i wr => BestRel xs n W0 st i wr) (fun _ i _ => n - (intOf i).toNat)
  case atStart => exact ⟨0, Nat.zero_le _, rfl, rfl, Below.refl _ _⟩
  case round =>
    obtain ⟨j, hj, rfl, rfl, hb⟩ := hrel
    have hbj := Ln.bestTo_le xs j
    have hboxr : wr.cell? ⟨w.heap.size, 0, none⟩ = some (.slice A n cap) := (hb.cell (p := ⟨w.heap.size, 0, none⟩) (by have := HZ.out; show w.heap.size < W0.heap.size; omega)).trans hbox
    by_cases hlt : j < n
    · have HC := Lib.hid (compare_calls w.heap.size A n cap xs j (Ln.bestTo xs j) wr hboxr (hsl.below hb) hn hlt (by omega))
      cases hx : Ln.lexLt (Ln.cand xs j) (Ln.cand xs (Ln.bestTo xs j)) with
      | true =>
        have hc : cmpL (Ln.cand xs j) (Ln.cand xs (Ln.bestTo xs j)) = -1 := by
          unfold cmpL
          rw [if_neg, if_pos hx]
          intro e; rw [e, Ln.lexLt_irrefl] at hx; cases hx
        have HS : Hid (Ln.bestTo xs (j + 1) = j) := by unfold Hid; rw [Ln.bestTo, if_pos hx]
        have HCC := Lib.hid hc
        clear hx hc
        go_wp2_with (go_at_call 65; refine HC.out.mono ?_; rw [HCC.out]; rintro e w1 ⟨rfl, hb1⟩)
        go_roundw
        case rel => exact ⟨j + 1, by omega, by rw [Int.natCast_add]; rfl, by rw [HS.out], hb.trans (hb1.mono hb.size)⟩
        case measure => simp [intOf]; omega
      | false =>
        have hc : 0 ≤ cmpL (Ln.cand xs j) (Ln.cand xs (Ln.bestTo xs j)) := by
          unfold cmpL
          split
          · omega
          · rw [hx]; simp
        have HS : Hid (Ln.bestTo xs (j + 1) = Ln.bestTo xs j) := by unfold Hid; rw [Ln.bestTo, if_neg (by rw [hx]; simp)]
        obtain ⟨q, hq⟩ : ∃ q, cmpL (Ln.cand xs j) (Ln.cand xs (Ln.bestTo xs j)) = q := ⟨_, rfl⟩
        rw [hq] at hc
        have HQ := Lib.hid hq
        clear hx hq
        go_wp2_with (go_at_call 65; refine HC.out.mono ?_; rw [HQ.out]; rintro e w1 ⟨rfl, hb1⟩)
        go_roundw
        case rel => exact ⟨j + 1, by omega, by rw [Int.natCast_add]; rfl, by rw [HS.out], hb.trans (hb1.mono hb.size)⟩
        case measure => simp [intOf]; omega
    · obtain ⟨wo, hwo⟩ : ∃ wo : World, wo = wr := ⟨_, rfl⟩
      obtain rfl := hwo
      obtain rfl : j = n := by omega
      have hbest : Ln.bestTo xs j < j ∨ j = 0 := by
        rcases Nat.eq_zero_or_pos j with q | q
        · exact .inr q
        · exact .inl (Ln.bestTo_lt xs j q)
      have HBEST := Lib.hid hbest
      have HBL := Lib.hid hbj
      obtain ⟨st, hst⟩ : ∃ st, Ln.bestTo xs j = st := ⟨_, rfl⟩
      have HST := Lib.hid hst
      rw [hst]
      clear hst hbest hbj
      have hlt1 : w.heap.size < wo.heap.size := by have := HZ.out; have := hb.size; omega
      go_wp2_with (at_make; refine wpList_make_ints rfl _ _ rfl j rfl rfl (by omega) ?_; intro W1 hown1 hb1; have hbox1 := (hb1.cell (p := ⟨w.heap.size, 0, none⟩) hlt1).trans hboxr)
      have hb01 : Below W0.heap.size W0 W1 := hb.trans (hb1.mono hb.size)
      go_loopw [26] (fun i wr => FillRel (Ln.along xs st) j W0 wo.heap.size wo.heap.size i wr) (fun i _ => j - (intOf i).toNat)
      case atStart => exact ⟨0, Nat.zero_le _, rfl, by rw [fillL_zero]; exact hown1, hb01⟩
      case round =>
        obtain ⟨k, hk, rfl, hown, hb2⟩ := hrel
        have HOWN := Lib.hid hown
        have hbox2 : wr.cell? ⟨w.heap.size, 0, none⟩ = some (.slice A j cap) := (hb2.cell (p := ⟨w.heap.size, 0, none⟩) (by have := HZ.out; show w.heap.size < W0.heap.size; omega)).trans hbox
        clear hbox1 hboxr hown1 hbox
        by_cases hkj : k < j
        · have hstj : st < j := by have := HBEST.out; have := HST.out; omega
          have HA := Lib.hid (along_any A j cap xs st k wr (hsl.below hb2) hn hstj (by omega) wr (Below.refl _ _))
          have hsz2 := hb2.size
          have hszr := hb.size
          clear hown
          go_wp2_with (go_at_call 67; refine HA.out.mono ?_; rintro e w3 ⟨rfl, hb3⟩; have hown3 := (HOWN.out.below hb3); obtain ⟨y, hy, hyc, hyf, hyg⟩ := hown3.cell (k := k) hkj)
          have HREL : Hid (FillRel (Ln.along xs st) j W0 wo.heap.size wo.heap.size (.int .i64 ((k : Int) + 1)) (w3.setCell ⟨wo.heap.size, k, none⟩ (.int .i64 (Ln.along xs st k)))) :=
            ⟨k + 1, by omega, by rw [Int.natCast_add]; rfl, by rw [← fillL_set]; exact hown3.set hkj _, (hb2.trans (hb3.mono hsz2)).setCell (p := ⟨wo.heap.size, k, none⟩) hszr _⟩
          clear hyc hyf hown3 hy
          go_roundw
          case rel => exact HREL.out
          case measure => simp [intOf]; omega
        · obtain rfl : k = j := by omega
          go_wp2_with fail
          go_ret
          refine ⟨_, rfl, ?_, hbw.trans (hb2.mono (by have := HZ.out; omega))⟩
          rw [fillL_full] at hown
          have hh : Ln.least xs = (List.range k).map (Ln.along xs st) := by
            unfold Ln.least Ln.cand Ln.best
            rw [HL.out, HST.out]
          rw [hh]
          exact hown.mono (by omega)

/-- What a function leaves that returns a list and an error: the list is empty with an error. -/
def ErrPost (w : World) (er : Int) (res : List Int) (e : Ending) (w' : World) : Prop :=
  ∃ v, e = .returned (.tuple #[v, .int .i64 er]) ∧ OwnI w' w.heap.size v (if er = 0 then res else []) ∧ Below w.heap.size w w'
theorem ErrPost.ok {w w' : World} {er : Int} {res : List Int} {v : Value} (he : er = 0) (h : OwnI w' w.heap.size v res) (hb : Below w.heap.size w w') : ErrPost w er res (.returned (.tuple #[v, .int .i64 0])) w' :=
  ⟨v, by rw [he], by rw [if_pos he]; exact h, hb⟩
theorem ErrPost.err {w w' : World} {er : Int} {res : List Int} (he : ¬ er = 0) (hb : Below w.heap.size w w') : ErrPost w er res (.returned (.tuple #[.slice none 0 0, .int .i64 er])) w' :=
  ⟨_, rfl, by rw [if_neg he]; exact World.ownsRow_nil _ _ _ _, hb⟩

theorem ErrPost.get_ok {w w' : World} {er : Int} {res : List Int} {e : Ending} {n : Nat} (he : er = 0) (hl : res.length = n) (h : ErrPost w er res e w') :
    ∃ A c, e = .returned (.tuple #[.slice A n c, .int .i64 0]) ∧ OwnI w' w.heap.size (.slice A n c) res ∧ n ≤ c ∧ Below w.heap.size w w' := by
  obtain ⟨v, hv, hown, hb⟩ := h
  rw [if_pos he] at hown
  obtain ⟨A, c, rfl, hc, _⟩ := hown.form
  subst hl
  exact ⟨A, c, by rw [hv, he], hown, hc, hb⟩
theorem ErrPost.get_err {w w' : World} {er : Int} {res : List Int} {e : Ending} (he : ¬ er = 0) (h : ErrPost w er res e w') :
    ∃ A c, e = .returned (.tuple #[.slice A 0 c, .int .i64 er]) ∧ Below w.heap.size w w' := by
  obtain ⟨v, hv, hown, hb⟩ := h
  rw [if_neg he] at hown
  obtain ⟨A, c, rfl, hc, _⟩ := hown.form
  exact ⟨A, c, hv, hb⟩

theorem errB_ok {k : Int} {xs : List Int} {n : Nat} (hl : xs.length = n) (h : errB k xs = 0) : validB k xs = true ∧ n ≤ 400 ∧ n % 2 = 0 ∧ 0 ≤ k ∧ k ≤ 40 := by
  unfold errB at h
  split at h
  · omega
  · split at h
    · rename_i q
      refine ⟨q, ?_⟩
      unfold validB at q
      simp only [Bool.and_eq_true, decide_eq_true_eq] at q
      rw [hl] at q
      omega
    · omega

set_option maxHeartbeats 1000000 in
set_option maxRecDepth 100000 in
/-- line.Normal: the error, or the normal form. -/
theorem normal_calls (A : Option Addr) (n cap : Nat) (xs : List Int) (w : World) (h : SL w A n xs) (hn : n ≤ maxLen) :
    Calls Tryd.prog 15 #[.slice A n cap] w (ErrPost w (errB 40 xs) (Ln.normal xs)) := by
  have HL := Lib.hid h.1
  have HC := Lib.hid (check_calls 40 A n cap xs w h hn)
  by_cases he : errB 40 xs = 0
  · have h4 := errB_ok h.1 he
    have HE := Lib.hid he
    have HR := Lib.hid (reduce_calls A n cap xs w h h4.2.1 h4.2.2.1)
    have H4 := Lib.hid h4
    clear he h4
    go_enter Tryd.func15, Tryd.ntmps15
    go_wp2_with (first
      | (go_at_call 44; refine HC.out.mono ?_; rw [HE.out]; rintro e w' ⟨rfl, rfl⟩)
      | (go_at_call 46; refine HR.out.mono ?_; rintro e w1 ⟨A1, n1, c1, rfl, hs1, hnc1, hb1⟩; have hn1 : n1 ≤ 400 := by have e1 := hs1.1; have e2 := (Ln.length_core2 (Ln.stk xs)).2; have e3 := (Ln.length_stk xs).2; have e4 := HL.out; have e5 := H4.out.2.1; omega)
      | (go_at_call 45; refine (least_calls A1 n1 c1 _ w1 hs1 hn1).mono ?_; rintro e w2 ⟨v, rfl, hown2, hb2⟩))
    go_ret2
    exact ErrPost.ok HE.out (hown2.mono hb1.size) (hb1.trans (hb2.mono hb1.size))
  · have hne : (errB 40 xs != 0) = true := by rw [bne_iff_ne]; exact he
    have HN := Lib.hid he
    clear he
    go_enter Tryd.func15, Tryd.ntmps15
    go_wp2_with (go_at_call 44; refine HC.out.mono ?_; rintro e w' ⟨rfl, rfl⟩)
    go_ret2
    exact ErrPost.err HN.out (Below.refl _ _)

end Go.Proofs.YtenomnkdfiojbaaDoor
