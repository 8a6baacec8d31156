/-
  line's arcs, tangled, drawn and Ranks, and the reference's Valid, Reduced and Drawn, beside the texts of code (for CodePlain).
-/
import Derived.Test.YtbbpockkafbfmaaDoorLwR1
import Derived.Deep.RegionHeld3
namespace Go.Proofs.YtbbpockkafbfmaaDoor.Lw
open Go.RowKit
/-- What a function leaves that returns a list alone. -/
def ListPost (w : World) (res : List Int) (n : Nat) (e : Ending) (w' : World) : Prop :=
  ∃ A c, e = .returned (.slice A n c) ∧ OwnI w' w.heap.size (.slice A n c) res ∧ n ≤ c ∧ Below w.heap.size w w'
theorem ListPost.of {w w' : World} {res : List Int} {n : Nat} {v : Value} (hl : res.length = n) (h : OwnI w' w.heap.size v res) (hb : Below w.heap.size w w') : ListPost w res n (.returned v) w' := by
  obtain ⟨A, c, rfl, hc, _⟩ := h.form
  subst hl
  exact ⟨A, c, rfl, h, hc, hb⟩

/-- A literal list. -/
theorem _root_.Go.Proofs.YtbbpockkafbfmaaDoor.SL.made (w : World) (T : TypeId) (xs : List Int) : SL (w.alloc (.cells (xs.map (Value.int .i64)).toArray T)) (some ⟨w.heap.size, 0, none⟩) xs.length xs := by
  refine ⟨rfl, fun _ => ⟨w.heap.size, 0, rfl, by simp, fun k hk => ?_⟩⟩
  have := Lib.cell_of_heap (heap_alloc_new w (.cells (xs.map (Value.int .i64)).toArray T)) (0 + k)
  rw [this, Nat.zero_add]
  have hx : xs[k]? = some xs[k] := List.getElem?_eq_getElem hk
  simp [hx]


end Go.Proofs.YtbbpockkafbfmaaDoor.Lw

namespace Go.Proofs.YtbbpockkafbfmaaDoor.Lw
open Go.RowKit

theorem errB_of_valid' {k : Int} {xs : List Int} (h : validB k xs = true) : errB k xs = 0 := by
  have : xs.length ≤ 400 := by unfold validB at h; simp only [Bool.and_eq_true, decide_eq_true_eq] at h; exact h.1.1.2
  unfold errB
  rw [if_neg (by omega), if_pos h]
theorem validB_split (k : Int) (xs : List Int) : validB k xs = (decide (0 ≤ k) && decide (k ≤ 40) && validB 40 xs && xs.all (fun g => decide (g ≤ k))) := by
  rw [Bool.eq_iff_iff]
  unfold validB
  simp only [Bool.and_eq_true, decide_eq_true_eq, List.all_eq_true]
  constructor
  · rintro ⟨⟨⟨⟨a, b⟩, c⟩, d⟩, e⟩
    exact ⟨⟨⟨a, b⟩, ⟨⟨⟨by omega, by omega⟩, c⟩, d⟩, fun x hx => by have := e x hx; omega⟩, fun x hx => (e x hx).2⟩
  · rintro ⟨⟨⟨a, b⟩, ⟨⟨_, c⟩, d⟩, e⟩, f⟩
    exact ⟨⟨⟨⟨a, b⟩, c⟩, d⟩, fun x hx => by have := e x hx; have := f x hx; omega⟩

def AllRel (p : Int → Bool) (xs : List Int) (n : Nat) (i : Value) : Prop := ∃ j : Nat, j ≤ n ∧ i = .int .i64 j ∧ (xs.take j).all p = true

set_option maxHeartbeats 1000000 in
theorem word_calls (A : Option Addr) (n cap : Nat) (xs : List Int) (w : World) (h : SL w A n xs) (hn : n ≤ maxLen) :
    Calls Tryd.prog 52 #[.slice A n cap] w fun e w' => e = .returned (.bool (validB 40 xs)) ∧ w = w' := by
  unfold maxLen at hn
  have HL := Lib.hid h.1
  by_cases n2 : n % 2 = 0
  · have hm : ((n : Int) % 2 != 0) = false := by rw [bne_eq_false_iff_eq]; omega
    by_cases n4 : n ≤ 400
    · have HN2 := Lib.hid n2
      clear n2
      go_enter Tryd.func52, Tryd.ntmps52
      go_wp2
      go_loop [3] (fun i => AllRel (fun g => decide (0 ≤ g) && decide (g ≤ 40)) xs n i) (fun i => n - (intOf i).toNat)
      case atStart => exact ⟨0, Nat.zero_le _, rfl, by simp⟩
      case round =>
        obtain ⟨j, hj, rfl, hall⟩ := hrel
        have HALL := Lib.hid hall
        clear hall
        by_cases hlt : j < n
        · obtain ⟨b, off, x, rfl, _, hx, hc⟩ := h.at_ hlt
          have HX := Lib.hid hx
          clear hx
          by_cases hp : 0 ≤ x ∧ x ≤ 40
          · obtain ⟨x0, x1⟩ := hp
            go_wp2
            go_round
            case rel => exact ⟨j + 1, by omega, by rw [Int.natCast_add]; rfl, by rw [all_take_succ HX.out, HALL.out]; simp [x0, x1]⟩
            case measure => simp [intOf]; omega
          · have HV : Hid (validB 40 xs = false) := by
              unfold Hid validB
              rw [all_of_not HX.out (by simp only [Bool.and_eq_false_iff, decide_eq_false_iff_not]; omega), Bool.and_false]
            by_cases x0 : x < 0
            · clear hp
              go_wp2
              go_ret
              exact ⟨ret_bool HV.out.symm, rfl⟩
            · have x1 : 40 < x := by omega
              clear hp
              go_wp2
              go_ret
              exact ⟨ret_bool HV.out.symm, rfl⟩
        · have HV : Hid (validB 40 xs = true) := by
            have e := HALL.out
            rw [List.take_of_length_le (by rw [HL.out]; omega)] at e
            unfold Hid validB
            rw [e, HL.out]
            simp [HN2.out]; omega
          go_wp2
          go_ret
          exact ⟨ret_bool HV.out.symm, rfl⟩
    · have HV : Hid (validB 40 xs = false) := validB_no HL.out (by omega)
      have n5 : (400 : Int) < n := by omega
      clear n2 n4
      go_enter Tryd.func52, Tryd.ntmps52
      go_wp2
      go_ret
      exact ⟨ret_bool HV.out.symm, rfl⟩
  · have hm : ((n : Int) % 2 != 0) = true := by rw [bne_iff_ne]; omega
    have HV : Hid (validB 40 xs = false) := validB_no HL.out (by omega)
    clear n2
    go_enter Tryd.func52, Tryd.ntmps52
    go_wp2
    go_ret
    exact ⟨ret_bool HV.out.symm, rfl⟩

set_option maxHeartbeats 1000000 in
theorem refValid_calls (k : Int) (A : Option Addr) (n cap : Nat) (xs : List Int) (w : World) (h : SL w A n xs) (hn : n ≤ maxLen) :
    Calls Tryd.prog 21 #[.int .i64 k, .slice A n cap] w fun e w' => e = .returned (.bool (validB k xs)) ∧ w = w' := by
  have HW := Lib.hid (word_calls A n cap xs w h hn)
  have HL := Lib.hid h.1
  have HS := Lib.hid (validB_split k xs)
  unfold maxLen at hn
  by_cases k0 : k < 0
  · have HV : Hid (validB k xs = false) := by unfold Hid; rw [HS.out]; simp; omega
    go_enter Tryd.func21, Tryd.ntmps21
    go_wp2_with fail
    go_ret
    exact ⟨ret_bool HV.out.symm, rfl⟩
  · by_cases k1 : 40 < k
    · have HV : Hid (validB k xs = false) := by unfold Hid; rw [HS.out]; simp; omega
      go_enter Tryd.func21, Tryd.ntmps21
      go_wp2_with fail
      go_ret
      exact ⟨ret_bool HV.out.symm, rfl⟩
    · have k0' : 0 ≤ k := by omega
      have k1' : k ≤ 40 := by omega
      clear k0 k1
      cases hv : validB 40 xs with
      | false =>
        have HV : Hid (validB k xs = false) := by unfold Hid; rw [HS.out, hv]; simp
        have HV4 := Lib.hid hv
        clear hv
        go_enter Tryd.func21, Tryd.ntmps21
        go_wp2_with (go_at_call 52; refine HW.out.mono ?_; rw [HV4.out]; rintro e w' ⟨rfl, rfl⟩)
        go_ret
        exact ⟨ret_bool HV.out.symm, rfl⟩
      | true =>
        have HV4 := Lib.hid hv
        have HS2 : Hid (validB k xs = xs.all (fun g => decide (g ≤ k))) := by unfold Hid; rw [HS.out, hv]; simp [k0', k1']
        clear hv
        go_enter Tryd.func21, Tryd.ntmps21
        go_wp2_with (go_at_call 52; refine HW.out.mono ?_; rw [HV4.out]; rintro e w' ⟨rfl, rfl⟩)
        go_loop [5] (fun i => AllRel (fun g => decide (g ≤ k)) xs n i) (fun i => n - (intOf i).toNat)
        case atStart => exact ⟨0, Nat.zero_le _, rfl, by simp⟩
        case round =>
          obtain ⟨j, hj, rfl, hall⟩ := hrel
          have HALL := Lib.hid hall
          clear hall
          by_cases hlt : j < n
          · obtain ⟨b, off, x, rfl, _, hx, hc⟩ := h.at_ hlt
            have HX := Lib.hid hx
            clear hx
            by_cases hp : x ≤ k
            · go_wp2_with fail
              go_round
              case rel => exact ⟨j + 1, by omega, by rw [Int.natCast_add]; rfl, by rw [all_take_succ HX.out, HALL.out]; simp [hp]⟩
              case measure => simp [intOf]; omega
            · have HF : Hid (validB k xs = false) := by unfold Hid; rw [HS2.out]; exact all_of_not HX.out (by simp; omega)
              have hp' : k < x := by omega
              clear hp
              go_wp2_with fail
              go_ret
              exact ⟨ret_bool HF.out.symm, rfl⟩
          · have HT : Hid (validB k xs = true) := by
              have e := HALL.out
              rw [List.take_of_length_le (by rw [HL.out]; omega)] at e
              unfold Hid; rw [HS2.out]; exact e
            go_wp2_with fail
            go_ret
            exact ⟨ret_bool HT.out.symm, rfl⟩

/-- What pair answers: the first index of a letter that is equal to the next one, turned round. -/
def PairIs (xs : List Int) (z : Int) : Prop :=
  (z = -1 ∧ ∀ i, i < xs.length → ¬ xs.getD i 0 = xs.getD ((i + 1) % xs.length) 0) ∨
  ∃ i : Nat, z = i ∧ i < xs.length ∧ xs.getD i 0 = xs.getD ((i + 1) % xs.length) 0 ∧ ∀ j, j < i → ¬ xs.getD j 0 = xs.getD ((j + 1) % xs.length) 0
def PairPost (xs : List Int) (w : World) (e : Ending) (w' : World) : Prop := ∃ z, e = .returned (.int .i64 z) ∧ PairIs xs z ∧ Below w.heap.size w w'

def PairRel (xs : List Int) (n : Nat) (w : World) (i : Value) (wr : World) : Prop :=
  ∃ j q : Nat, j ≤ n ∧ i = .int .i64 j ∧ (∀ i, i < j → ¬ xs.getD i 0 = xs.getD ((i + 1) % xs.length) 0) ∧ wr = w.drewN q

set_option maxHeartbeats 1000000 in
theorem pair_calls (A : Option Addr) (n cap : Nat) (xs : List Int) (w : World) (h : SL w A n xs) (hn : n ≤ 1000) :
    Calls Tryd.prog 54 #[.slice A n cap] w (PairPost xs w) := by
  have HL := Lib.hid h.1
  go_enter Tryd.func54, Tryd.ntmps54
  go_wp2_with fail
  go_loopw [3] (fun i wr => PairRel xs n w i wr) (fun i _ => n - (intOf i).toNat)
  case atStart => exact ⟨0, 0, Nat.zero_le _, rfl, fun i hi => by omega, rfl⟩
  case round =>
    obtain ⟨j, q, hj, rfl, hall, rfl⟩ := hrel
    have HALL := Lib.hid hall
    clear hall
    by_cases hlt : j < n
    · obtain ⟨b, off, x, rfl, hbb, hx, hc⟩ := h.at_ hlt
      have hmlt : (j + 1) % n < n := Nat.mod_lt _ (by omega)
      obtain ⟨b', off', y, hA, _, hy, hd⟩ := h.at_ hmlt
      obtain ⟨rfl, rfl⟩ : b = b' ∧ off = off' := by injection hA with hA; injection hA with e1 e2; exact ⟨e1, e2⟩
      have hgx : xs.getD j 0 = x := by rw [List.getD_eq_getElem?_getD, hx]; rfl
      have hgy : xs.getD ((j + 1) % xs.length) 0 = y := by rw [HL.out, List.getD_eq_getElem?_getD, hy]; rfl
      have HX := Lib.hid hgx
      have HY := Lib.hid hgy
      have hm : ((j : Int) + 1) % (n : Int) = ((j + 1) % n : Nat) := by rw [← Int.natCast_one, ← Int.natCast_add, ← Int.natCast_emod]
      have hji : (j : Int) < n := by omega
      clear hx hy hgx hgy hA
      generalize (j + 1) % n = m at hm hmlt hd
      have hmi : (m : Int) < n := by omega
      by_cases hp : x = y
      · have hp' : (x == y) = true := by rw [beq_iff_eq]; exact hp
        have HP := Lib.hid hp
        clear hp
        go_wp2_with fail
        go_quiet (fail)
        go_wp2_with fail
        go_ret
        exact ⟨_, rfl, .inr ⟨j, rfl, by rw [HL.out]; exact hlt, by rw [HX.out, HY.out]; exact HP.out, HALL.out⟩, below_drewN (below_drewN (Below.refl _ _) _) _⟩
      · have hp' : (x == y) = false := by rw [beq_eq_false_iff_ne]; exact hp
        have HP := Lib.hid hp
        clear hp
        go_wp2_with fail
        go_quiet (fail)
        go_wp2_with fail
        go_roundw
        case rel => exact ⟨j + 1, _, by omega, by rw [Int.natCast_add]; rfl, fun i hi => by
            by_cases e : i = j
            · subst e; rw [HX.out, HY.out]; exact HP.out
            · exact HALL.out i (by omega), rfl⟩
        case measure => simp [intOf]; omega
    · go_wp2_with fail
      go_ret
      exact ⟨_, rfl, .inl ⟨rfl, fun i hi => HALL.out i (by rw [HL.out] at hi; omega)⟩, below_drewN (Below.refl _ _) _⟩

theorem cycB_true {xs : List Int} : cycB xs = true ↔ ∀ i, i < xs.length → ¬ xs.getD i 0 = xs.getD ((i + 1) % xs.length) 0 := by
  unfold cycB
  simp only [List.all_eq_true, List.mem_range, Bool.not_eq_true', beq_eq_false_iff_ne, ne_eq]
theorem PairIs.neg {xs : List Int} {z : Int} (h : PairIs xs z) : decide (z < 0) = cycB xs := by
  rcases h with ⟨rfl, h⟩ | ⟨i, rfl, hi, he, _⟩
  · rw [cycB_true.2 h]; rfl
  · have : cycB xs = false := by
      cases e : cycB xs with
      | false => rfl
      | true => exact absurd he (cycB_true.1 e i hi)
    rw [this, decide_eq_false_iff_not]; omega

set_option maxHeartbeats 1000000 in
theorem refReduced_calls (A : Option Addr) (n cap : Nat) (xs : List Int) (w : World) (h : SL w A n xs) (hn : n ≤ maxLen) :
    Calls Tryd.prog 25 #[.slice A n cap] w fun e w' => e = .returned (.bool (reducedB xs)) ∧ Below w.heap.size w w' := by
  have HL := Lib.hid h.1
  have HW := Lib.hid (word_calls A n cap xs w h hn)
  cases hv : validB 40 xs with
  | false =>
    have HV := Lib.hid hv
    clear hv
    go_enter Tryd.func25, Tryd.ntmps25
    go_wp2_with (go_at_call 52; refine HW.out.mono ?_; rw [HV.out]; rintro e w' ⟨rfl, rfl⟩)
    go_ret
    exact ⟨ret_bool (by unfold reducedB; rw [HV.out]; rfl), Below.refl _ _⟩
  | true =>
    have hlen : n ≤ 400 := by unfold validB at hv; simp only [Bool.and_eq_true, decide_eq_true_eq] at hv; have := hv.1.1.2; rw [HL.out] at this; exact this
    have HV := Lib.hid hv
    have HP := Lib.hid (pair_calls A n cap xs w h (by omega))
    clear hv
    go_enter Tryd.func25, Tryd.ntmps25
    go_wp2_with (first
      | (go_at_call 52; refine HW.out.mono ?_; rw [HV.out]; rintro e w' ⟨rfl, rfl⟩)
      | (go_at_call 54; refine HP.out.mono ?_; rintro e w1 ⟨z, rfl, hz, hb⟩; have HZ := Lib.hid hz.neg; clear hz))
    all_goals go_ret
    all_goals exact ⟨ret_bool (by unfold reducedB; rw [HV.out, ← HZ.out]; simp; try omega), hb⟩

end Go.Proofs.YtbbpockkafbfmaaDoor.Lw

namespace Go.Proofs.YtbbpockkafbfmaaDoor.Lw
open Go.RowKit
def posL (xs ys : List Int) : List Int := (List.range xs.length).map fun i => xs.getD i 0 * 401 + ys.getD i 0

set_option maxHeartbeats 1000000 in
theorem positions_calls (A1 A2 : Option Addr) (n c1 c2 : Nat) (xs ys : List Int) (w : World) (h1 : SL w A1 n xs) (h2 : SL w A2 n ys) (hn : n ≤ 1000) (hr : ∀ x, x ∈ xs → 0 ≤ x ∧ x ≤ 40) (hr2 : ∀ x, x ∈ ys → 0 ≤ x ∧ x ≤ 1000000) :
    Calls Tryd.prog 59 #[.slice A1 n c1, .slice A2 n c2] w (ListPost w (posL xs ys) n) := by
  have HL := Lib.hid h1.1
  have HR := Lib.hid hr
  have HR2 := Lib.hid hr2
  clear hr hr2
  go_enter Tryd.func59, Tryd.ntmps59
  go_wp2_with (at_make; refine wpList_make_ints rfl _ _ rfl n rfl rfl (by omega) ?_; intro w1 hown1 hb1)
  go_loopw [13] (fun i wr => FillRel (fun i => xs.getD i 0 * 401 + ys.getD i 0) n w w.heap.size w.heap.size i wr) (fun i _ => n - (intOf i).toNat)
  case atStart => exact ⟨0, Nat.zero_le _, rfl, by rw [fillL_zero]; exact hown1, hb1⟩
  case round =>
    obtain ⟨j, hj, rfl, hown, hb⟩ := hrel
    have HOWN := Lib.hid hown
    clear hown1 hown
    by_cases hlt : j < n
    · obtain ⟨b, off, x, rfl, _, hx, hc⟩ := (h1.below hb).at_ hlt
      obtain ⟨b', off', u, rfl, _, hu, hd⟩ := (h2.below hb).at_ hlt
      have hxr := HR.out x (List.mem_of_getElem? hx)
      have hur := HR2.out u (List.mem_of_getElem? hu)
      obtain ⟨x0, x1⟩ := hxr
      obtain ⟨u0, u1⟩ := hur
      have hgx : xs.getD j 0 = x := by rw [List.getD_eq_getElem?_getD, hx]; rfl
      have hgu : ys.getD j 0 = u := by rw [List.getD_eq_getElem?_getD, hu]; rfl
      obtain ⟨y, hy, hyc, hyf, hyg⟩ := HOWN.out.cell (k := j) hlt
      have HREL : Hid (FillRel (fun i => xs.getD i 0 * 401 + ys.getD i 0) n w w.heap.size w.heap.size (.int .i64 ((j : Int) + 1)) (wr.setCell ⟨w.heap.size, j, none⟩ (.int .i64 (x * 401 + u)))) :=
        ⟨j + 1, by omega, by rw [Int.natCast_add]; rfl, by rw [← fillL_set, hgx, hgu]; exact HOWN.out.set hlt _, hb.setCell (p := ⟨w.heap.size, j, none⟩) hyg _⟩
      clear hx hu hgx hgu hy
      go_wp2_with fail
      go_roundw
      case rel => exact HREL.out
      case measure => simp [intOf]; omega
    · obtain rfl : j = n := by omega
      go_wp2_with fail
      go_ret
      have e := HOWN.out
      rw [fillL_full] at e
      refine ListPost.of (by simp [posL, HL.out]) ?_ hb
      unfold posL
      rw [HL.out]
      exact e

theorem infoArc : (Tryd.prog.info? 136).map (fun i => (i.zero, i.size, i.bytes)) = some (some (.agg #[.int .i64 0, .int .i64 0]), 2, 16) := by kernel_rfl

/-- An arc appended to nothing. -/
theorem wpList_append_arc {w : World} {ops : Array Oper} {rest : List Oper} {o : Oper} {a : Act} {Q : Exit → Act → World → Prop} (hgd : o.guard = none) (s x : Operand)
    (ho : o.op = .call { callee := .builtin .append, args := #[s, x], argTypes := #[121, 121] })
    (hs : a.eval s = .slice none 0 0) (B : Nat) (l r : Value) (fr : Nat × Nat) (t : TypeId) (hx : a.eval x = .slice (some ⟨B, 0, none⟩) 1 1) (hb : w.heap[B]? = some (.cells #[l, r] t fr)) (h1 : l.oneCell' = true) (h2 : r.oneCell' = true)
    (h : ∀ g cap w', w'.cell? ⟨g, 0, none⟩ = some l → w'.cell? ⟨g, 1, none⟩ = some r → Below w.heap.size w w' → wpList Tryd.prog ops Q rest (a.put o.dst (.slice (some ⟨g, 0, none⟩) 1 cap)) w') :
    wpList Tryd.prog ops Q (o :: rest) a w := by
  obtain ⟨i0, hi, hz0, hz1, hz2⟩ := info_parts infoArc
  refine wpList_append_lies w hgd s x 121 ho w.heap.size 136 i0 (.agg #[.int .i64 0, .int .i64 0]) 2 16 Tryd.underlying121 hi hz0 hz1 hz2 rfl (by decide) (.slice none 0 0) 0 [] hs (World.ownsRow_nil _ _ _ _)
    ⟨B, 0, none⟩ 1 1 [l, r] hx rfl (World.news_of_block hb) ?_ (by decide) (by decide) (by decide) (Nat.le_refl _) w.heap.size rfl ?_
  · intro u hu
    rcases List.mem_cons.1 hu with rfl | hu
    · exact h1
    · rw [List.mem_singleton] at hu; subst hu; exact h2
  · intro g cap w' hown hg hat hlt
    have hc := hown.cells (g := g) rfl
    refine h g cap w' ?_ ?_ ((Below.refl _ _).grown hg (Nat.le_refl _) (fun k hk => by cases hk))
    · have := hc 0 l rfl; simpa [Addr.add] using this
    · have := hc 1 r rfl; simpa [Addr.add] using this

end Go.Proofs.YtbbpockkafbfmaaDoor.Lw

namespace Go.Proofs.YtbbpockkafbfmaaDoor.Lw
open Go.RowKit

def arcFlat (l : List (Int × Int)) : List Value := l.flatMap fun p => [.int .i64 p.1, .int .i64 p.2]
def OwnA (w : World) (B : Nat) (v : Value) (l : List (Int × Int)) : Prop := w.ownsRow B 136 2 v l.length (arcFlat l)
theorem OwnA.below {w w' : World} {B : Nat} {v : Value} {l : List (Int × Int)} (h : OwnA w B v l) (hb : Below w.heap.size w w') : OwnA w' B v l := ownsRow_below h hb

theorem arcFlat_at {l : List (Int × Int)} {k : Nat} {p : Int × Int} (h : l[k]? = some p) : (arcFlat l)[2 * k]? = some (.int .i64 p.1) ∧ (arcFlat l)[2 * k + 1]? = some (.int .i64 p.2) := by
  induction l generalizing k with
  | nil => cases h
  | cons a l ih =>
    cases k with
    | zero =>
      injection h with h
      subst h
      exact ⟨rfl, rfl⟩
    | succ k =>
      have := ih (k := k) h
      rw [show 2 * (k + 1) = 2 * k + 2 by omega]
      exact this

theorem wpList_append_arcs {w : World} {ops : Array Oper} {rest : List Oper} {o : Oper} {a : Act} {Q : Exit → Act → World → Prop} (hgd : o.guard = none) (s x : Operand)
    (ho : o.op = .call { callee := .builtin .append, args := #[s, x], argTypes := #[121, 121] })
    (B : Nat) (v : Value) (ls : List (Int × Int)) (hs : a.eval s = v) (hown : OwnA w B v ls)
    (N : Nat) (l r : Int) (fr : Nat × Nat) (t : TypeId) (hx : a.eval x = .slice (some ⟨N, 0, none⟩) 1 1) (hb : w.heap[N]? = some (.cells #[.int .i64 l, .int .i64 r] t fr)) (hbig : ls.length ≤ 1000) (hbase : B ≤ w.heap.size)
    (h : ∀ v' w', OwnA w' B v' (ls ++ [(l, r)]) → w.grownBy w' v.ownBlock → wpList Tryd.prog ops Q rest (a.put o.dst v') w') :
    wpList Tryd.prog ops Q (o :: rest) a w := by
  obtain ⟨i0, hi, hz0, hz1, hz2⟩ := info_parts infoArc
  refine wpList_append_lies w hgd s x 121 ho B 136 i0 (.agg #[.int .i64 0, .int .i64 0]) 2 16 Tryd.underlying121 hi hz0 hz1 hz2 rfl (by decide) v ls.length (arcFlat ls) hs hown
    ⟨N, 0, none⟩ 1 1 [.int .i64 l, .int .i64 r] hx rfl (World.news_of_block hb) ?_ (by decide) (by unfold maxLen; omega) (by omega) hbase w.heap.size rfl ?_
  · intro u hu
    rcases List.mem_cons.1 hu with rfl | hu
    · rfl
    · rw [List.mem_singleton] at hu; subst hu; rfl
  · intro g cap w' hown' hg _ _
    refine h _ w' ?_ hg
    unfold OwnA
    have e : arcFlat (ls ++ [(l, r)]) = arcFlat ls ++ [.int .i64 l, .int .i64 r] := by simp [arcFlat]
    rw [e, List.length_append]
    exact hown'

/-- The arc at a position. -/
def arcAt (L : List Int) (i : Nat) : Int × Int := (min (L.getD i 0) (L.getD ((i + 1) % L.length) 0), max (L.getD i 0) (L.getD ((i + 1) % L.length) 0))
def arcsL (L : List Int) (f k : Nat) : List (Int × Int) := (List.range k).map fun t => arcAt L (f + 2 * t)
theorem arcsL_succ (L : List Int) (f k : Nat) : arcsL L f (k + 1) = arcsL L f k ++ [arcAt L (f + 2 * k)] := by simp [arcsL, List.range_succ]
theorem arcsL_length (L : List Int) (f k : Nat) : (arcsL L f k).length = k := by simp [arcsL]

def ArcsRel (L : List Int) (f n : Nat) (w : World) (v i : Value) (wr : World) : Prop :=
  ∃ k : Nat, k ≤ n / 2 ∧ i = .int .i64 ((f + 2 * k : Nat) : Int) ∧ OwnA wr w.heap.size v (arcsL L f k) ∧ Below w.heap.size w wr

set_option maxHeartbeats 1000000 in
set_option maxRecDepth 100000 in
theorem arcs_calls (f : Nat) (hf : f = 0 ∨ f = 1) (A : Option Addr) (n cap : Nat) (L : List Int) (w : World) (h : SL w A n L) (hn : n ≤ 400) (he : n % 2 = 0) (hr : ∀ x, x ∈ L → 0 ≤ x ∧ x ≤ 10000000) :
    Calls Tryd.prog 93 #[.slice A n cap, .int .i64 (f : Int)] w fun e w' => ∃ v, e = .returned v ∧ OwnA w' w.heap.size v (arcsL L f (n / 2)) ∧ Below w.heap.size w w' := by
  have HL := Lib.hid h.1
  have HR := Lib.hid hr
  clear hr
  go_enter Tryd.func93, Tryd.ntmps93
  go_wp2_with fail
  go_loopw [5, 6] (fun v i wr => ArcsRel L f n w v i wr) (fun _ i _ => n + 2 - (intOf i).toNat)
  case atStart => exact ⟨0, Nat.zero_le _, rfl, World.ownsRow_nil _ _ _ _, Below.refl _ _⟩
  case round =>
    obtain ⟨k, hk, rfl, hown, hb⟩ := hrel
    have HOWN := Lib.hid hown
    have HB := Lib.hid hb
    obtain ⟨j, hj⟩ : ∃ j, f + 2 * k = j := ⟨_, rfl⟩
    rw [hj]
    by_cases hlt : j < n
    · have hk2 : k + 1 ≤ n / 2 := by omega
      obtain ⟨b, off, x, rfl, hbb, hx, hc⟩ := (h.below hb).at_ hlt
      have hmlt : (j + 1) % n < n := Nat.mod_lt _ (by omega)
      obtain ⟨b', off', y, hA, _, hy, hd⟩ := (h.below hb).at_ hmlt
      obtain ⟨rfl, rfl⟩ : b = b' ∧ off = off' := by injection hA with hA; injection hA with e1 e2; exact ⟨e1, e2⟩
      have hm : ((j : Int) + 1) % (n : Int) = ((j + 1) % n : Nat) := by rw [← Int.natCast_one, ← Int.natCast_add, ← Int.natCast_emod]
      have HA : Hid (arcAt L (f + 2 * k) = (min x y, max x y)) := by
        unfold Hid arcAt
        rw [hj, HL.out, List.getD_eq_getElem?_getD, List.getD_eq_getElem?_getD, hx, hy]
        rfl
      clear hx hy hA hown hb
      generalize (j + 1) % n = m at hm hmlt hd
      go_wp2_with fail
      go_quiet (fail)
      clear hc hd
      go_wp2_with (at_builtin; refine wpList_append_arcs rfl _ _ rfl w.heap.size _ (arcsL L f k) rfl (OwnA.below (OwnA.below HOWN.out (below_drewN (Below.refl _ wr) _)) ((Below.refl _ _).alloc (Nat.le_refl _) _)) wr.heap.size _ _ _ _ rfl (heap_alloc_new _ _) ?c1 ?c2 ?_)
      case c1 => rw [arcsL_length]; omega
      case c2 => have := HB.out.size; simp; omega
      intro v' w' hown' hg
      have HREL : Hid (ArcsRel L f n w v' (.int .i64 ((j : Int) + 2)) w') :=
        ⟨k + 1, hk2, by congr 1; omega, by rw [arcsL_succ, HA.out]; exact hown', Below.grown ((below_drewN HB.out _).alloc HB.out.size _) hg (by have := HB.out.size; simp; omega) (fun k hk => (HOWN.out.lt k hk).1)⟩
      clear hown' hg
      go_wp2_with fail
      go_roundw
      case rel => exact HREL.out
      case measure => simp [intOf]; omega
    · have hk2 : k = n / 2 := by omega
      go_wp2_with fail
      go_ret
      refine ⟨_, rfl, ?_, hb⟩
      rw [← hk2]
      exact hown

end Go.Proofs.YtbbpockkafbfmaaDoor.Lw

namespace Go.Proofs.YtbbpockkafbfmaaDoor.Lw
open Go.RowKit

def winB (p : Int × Int) (x : Int) : Bool := decide (p.1 < x) && decide (x < p.2)
def crossB (l : List (Int × Int)) (i j : Nat) : Bool := winB (l.getD i (0, 0)) (l.getD j (0, 0)).1 != winB (l.getD i (0, 0)) (l.getD j (0, 0)).2
def tanB (l : List (Int × Int)) : Bool := (List.range l.length).any fun i => (List.range i).any fun j => crossB l i j

/-- No two arcs on one side cross. -/
def NC (n : Nat) (pos : Nat → Int) : Prop :=
  ∀ i j, i < n → j < n → i % 2 = j % 2 → i ≠ j → (Rk.Btw (pos j) (pos i) (pos (Rk.nx n true i)) ↔ Rk.Btw (pos (Rk.nx n true j)) (pos i) (pos (Rk.nx n true i)))

instance instBtw (x u v : Int) : Decidable (Rk.Btw x u v) := by unfold Rk.Btw; infer_instance

theorem nx_mod {n i : Nat} (hi : i < n) : Rk.nx n true i = (i + 1) % n := by
  unfold Rk.nx
  rw [if_pos rfl]
  split
  · rename_i h; rw [h, Nat.mod_self]
  · rw [Nat.mod_eq_of_lt (by omega)]
theorem winB_btw (a b x : Int) : winB (min a b, max a b) x = decide (Rk.Btw x a b) := by
  rw [Bool.eq_iff_iff, decide_eq_true_eq (p := Rk.Btw x a b)]
  unfold winB Rk.Btw
  rw [Bool.and_eq_true, decide_eq_true_eq, decide_eq_true_eq]
  simp only
  omega
theorem cross_false (a b c d : Int) : (winB (min a b, max a b) (min c d) != winB (min a b, max a b) (max c d)) = false ↔ (Rk.Btw c a b ↔ Rk.Btw d a b) := by
  rw [winB_btw, winB_btw, bne_eq_false_iff_eq, decide_eq_decide]
  rcases Int.le_total c d with h | h
  · rw [Int.min_eq_left h, Int.max_eq_right h]
  · rw [Int.min_eq_right h, Int.max_eq_left h]
    exact ⟨Iff.symm, Iff.symm⟩
theorem cross_sym {a b c d : Int} (h0 : a ≠ b) (h5 : c ≠ d) (h1 : a ≠ c) (h2 : a ≠ d) (h3 : b ≠ c) (h4 : b ≠ d) : (Rk.Btw c a b ↔ Rk.Btw d a b) ↔ (Rk.Btw a c d ↔ Rk.Btw b c d) := by
  unfold Rk.Btw
  rcases Int.lt_or_gt_of_ne h0 with h0 | h0 <;> rcases Int.lt_or_gt_of_ne h5 with h5 | h5 <;> rcases Int.lt_or_gt_of_ne h1 with h1 | h1 <;> rcases Int.lt_or_gt_of_ne h2 with h2 | h2 <;> rcases Int.lt_or_gt_of_ne h3 with h3 | h3 <;> rcases Int.lt_or_gt_of_ne h4 with h4 | h4 <;> omega

theorem tanB_false {l : List (Int × Int)} : tanB l = false ↔ ∀ i j, i < l.length → j < i → crossB l i j = false := by
  unfold tanB
  rw [List.any_eq_false]
  constructor
  · intro h i j hi hj
    have h1 := h i (List.mem_range.2 hi)
    rw [Bool.not_eq_true, List.any_eq_false] at h1
    have := h1 j (List.mem_range.2 hj)
    simpa using this
  · intro h i hi
    rw [Bool.not_eq_true, List.any_eq_false]
    intro j hj
    rw [h i j (List.mem_range.1 hi) (List.mem_range.1 hj)]
    simp

theorem arcsL_getD {L : List Int} {f k t : Nat} (ht : t < k) : (arcsL L f k).getD t (0, 0) = arcAt L (f + 2 * t) := by
  unfold arcsL
  rw [List.getD_eq_getElem?_getD, List.getElem?_map, List.getElem?_range ht]
  rfl

theorem arcs_nc {L : List Int} {n f : Nat} {pos : Nat → Int} (hl : L.length = n) (he : n % 2 = 0) (hf : f < 2) (hp : ∀ i, i < n → L.getD i 0 = pos i) (inj : ∀ i j, i < n → j < n → pos i = pos j → i = j) :
    tanB (arcsL L f (n / 2)) = false ↔ ∀ i j, i < n → j < n → i % 2 = f → j % 2 = f → i ≠ j → (Rk.Btw (pos j) (pos i) (pos (Rk.nx n true i)) ↔ Rk.Btw (pos (Rk.nx n true j)) (pos i) (pos (Rk.nx n true i))) := by
  have key : ∀ s t, s < n / 2 → t < n / 2 → (crossB (arcsL L f (n / 2)) s t = false ↔ (Rk.Btw (pos (f + 2 * t)) (pos (f + 2 * s)) (pos (Rk.nx n true (f + 2 * s))) ↔ Rk.Btw (pos (Rk.nx n true (f + 2 * t))) (pos (f + 2 * s)) (pos (Rk.nx n true (f + 2 * s))))) := by
    intro s t hs ht
    have e1 : f + 2 * s < n := by omega
    have e2 : f + 2 * t < n := by omega
    have e3 : (f + 2 * s + 1) % n < n := Nat.mod_lt _ (by omega)
    have e4 : (f + 2 * t + 1) % n < n := Nat.mod_lt _ (by omega)
    unfold crossB
    rw [arcsL_getD hs, arcsL_getD ht, nx_mod e1, nx_mod e2]
    unfold arcAt
    rw [hl, hp _ e1, hp _ e2, hp _ e3, hp _ e4]
    exact cross_false _ _ _ _
  rw [tanB_false]
  constructor
  · intro h i j hi hj fi fj hne
    obtain ⟨s, rfl⟩ : ∃ s, i = f + 2 * s := ⟨(i - f) / 2, by omega⟩
    obtain ⟨t, rfl⟩ : ∃ t, j = f + 2 * t := ⟨(j - f) / 2, by omega⟩
    rw [arcsL_length] at h
    rcases Nat.lt_or_gt_of_ne (show s ≠ t by omega) with hc | hc
    · have h1 := (key t s (by omega) (by omega)).1 (h t s (by omega) hc)
      have n1 : Rk.nx n true (f + 2 * s) < n := Rk.nx_lt hi
      have n2 : Rk.nx n true (f + 2 * t) < n := Rk.nx_lt hj
      have p1 := Rk.nx_par he (b := true) hi
      have p2 := Rk.nx_par he (b := true) hj
      have q : Rk.nx n true (f + 2 * s) ≠ Rk.nx n true (f + 2 * t) := fun e => hne (Rk.nx_inj hi hj true e)
      refine (cross_sym ?_ ?_ ?_ ?_ ?_ ?_).1 h1
      · intro e; have := inj _ _ hj n2 e; omega
      · intro e; have := inj _ _ hi n1 e; omega
      · intro e; have := inj _ _ hj hi e; omega
      · intro e; have := inj _ _ hj n1 e; omega
      · intro e; have := inj _ _ n2 hi e; omega
      · intro e; exact q (inj _ _ n2 n1 e).symm
    · exact (key s t (by omega) (by omega)).1 (h s t (by omega) hc)
  · intro h s t hs ht
    rw [arcsL_length] at hs
    exact (key s t hs (by omega)).2 (h _ _ (by omega) (by omega) (by omega) (by omega) (by omega))

theorem nc_iff {L : List Int} {n : Nat} {pos : Nat → Int} (hl : L.length = n) (he : n % 2 = 0) (hp : ∀ i, i < n → L.getD i 0 = pos i) (inj : ∀ i j, i < n → j < n → pos i = pos j → i = j) :
    (tanB (arcsL L 0 (n / 2)) = false ∧ tanB (arcsL L 1 (n / 2)) = false) ↔ NC n pos := by
  rw [arcs_nc hl he (by omega) hp inj, arcs_nc hl he (by omega) hp inj]
  constructor
  · rintro ⟨h0, h1⟩ i j hi hj hij hne
    rcases Nat.mod_two_eq_zero_or_one i with h | h
    · exact h0 i j hi hj h (by omega) hne
    · exact h1 i j hi hj h (by omega) hne
  · intro h
    exact ⟨fun i j hi hj fi fj hne => h i j hi hj (by omega) hne, fun i j hi hj fi fj hne => h i j hi hj (by omega) hne⟩

theorem cnt_le (f : Nat → Bool) : ∀ m, cnt f m ≤ m
  | 0 => Int.le_refl _
  | m + 1 => by have := cnt_le f m; rw [cnt]; split <;> omega
theorem Rks.bds {xs R : List Int} {n : Nat} (h : Rks xs R n) {i : Nat} (hi : i < n) : 1 ≤ gt R i ∧ gt R i ≤ n := by
  obtain ⟨h1, h2, _⟩ := h.2 i hi
  have := cnt_le (fun j => decide (gt xs j = gt xs i)) n
  omega
theorem Rks.inj {xs R : List Int} {n : Nat} (h : Rks xs R n) (hn : n ≤ 400) : ∀ i j, i < n → j < n → posOf xs R i = posOf xs R j → i = j := by
  intro i j hi hj he
  have h1 := h.bds hi
  have h2 := h.bds hj
  unfold posOf at he
  exact (h.2 j hj).2.2 i hi (by omega) (by omega)
theorem posL_getD {xs R : List Int} {n : Nat} (hl : xs.length = n) {i : Nat} (hi : i < n) : (posL xs R).getD i 0 = posOf xs R i := by
  unfold posL
  rw [List.getD_eq_getElem?_getD, List.getElem?_map, hl, List.getElem?_range hi]
  rfl
theorem posL_length (xs R : List Int) : (posL xs R).length = xs.length := by simp [posL]

/-- Whether line.drawn finds no crossing at the positions. -/
theorem ranks_nc {xs R : List Int} {n : Nat} (hl : xs.length = n) (hn : n ≤ 400) (he : n % 2 = 0) (hR : Rks xs R n) :
    (tanB (arcsL (posL xs R) 0 (n / 2)) = false ∧ tanB (arcsL (posL xs R) 1 (n / 2)) = false) ↔ NC n (posOf xs R) :=
  nc_iff (by rw [posL_length, hl]) he (fun _ hi => posL_getD hl hi) (hR.inj hn)

/-- A reduced word whose arcs don't cross is drawn. -/
theorem dr_of {xs R : List Int} {n : Nat} (hl : xs.length = n) (hn : n ≤ 400) (hr : reducedB xs = true) (hR : Rks xs R n) (hc : NC n (posOf xs R)) : Rk.Dr n (gt xs) (posOf xs R) := by
  unfold reducedB at hr
  rw [Bool.and_eq_true] at hr
  obtain ⟨hv, hcy⟩ := hr
  unfold validB at hv
  simp only [Bool.and_eq_true, decide_eq_true_eq, List.all_eq_true] at hv
  obtain ⟨⟨_, he⟩, hall⟩ := hv
  refine ⟨by rw [← hl]; exact he, fun i hi => ?_, fun i hi => ?_, fun i j hi hj hg => ?_, hR.inj hn, hc⟩
  · unfold gt
    rw [List.getD_eq_getElem?_getD, List.getElem?_eq_getElem (by omega)]
    exact hall _ (List.getElem_mem _)
  · rw [nx_mod hi]
    have h1 := cycB_true.1 hcy i (by omega)
    rw [hl] at h1
    exact h1
  · have h1 := hR.bds hi
    have h2 := hR.bds hj
    unfold posOf
    omega

/-- What line.Ranks answers. -/
def ranksM (xs : List Int) (n : Nat) : Option (List Int) :=
  match outerM xs n with
  | none => none
  | some r => if tanB (arcsL (posL xs r) 0 (n / 2)) = false ∧ tanB (arcsL (posL xs r) 1 (n / 2)) = false then some r else none

theorem red_rng {xs : List Int} (hr : reducedB xs = true) : xs.length % 2 = 0 ∧ xs.length ≤ 400 ∧ ∀ x, x ∈ xs → 0 ≤ x ∧ x ≤ 40 := by
  unfold reducedB validB at hr
  simp only [Bool.and_eq_true, decide_eq_true_eq, List.all_eq_true] at hr
  exact ⟨hr.1.1.2, hr.1.1.1.2, fun x hx => hr.1.2 x hx⟩

/-- The ranks that are returned are the only ones that draw the word. -/
theorem ranksM_iff {xs R : List Int} {n : Nat} (hl : xs.length = n) (hr : reducedB xs = true) : ranksM xs n = some R ↔ Rks xs R n ∧ NC n (posOf xs R) := by
  obtain ⟨he, hn, hrng⟩ := red_rng hr
  rw [hl] at he hn
  unfold ranksM
  constructor
  · intro h
    cases ho : outerM xs n with
    | none => rw [ho] at h; cases h
    | some r =>
      rw [ho] at h
      simp only at h
      split at h
      · rename_i hc
        injection h with h
        subst h
        have hR := outer_ranks hl hrng ho
        exact ⟨hR, (ranks_nc hl hn he hR).1 hc⟩
      · cases h
  · rintro ⟨hR, hc⟩
    rw [drawn_only hl hrng hR (dr_of hl hn hr hR hc)]
    simp only
    rw [if_pos ((ranks_nc hl hn he hR).2 hc)]

/-- What the reference's before, between and Drawn say. -/
def befB (xs R : List Int) (i j : Nat) : Bool := decide (gt xs i < gt xs j) || (decide (gt xs i = gt xs j) && decide (gt R i < gt R j))
def betB (xs R : List Int) (x a b : Nat) : Bool := (befB xs R a x && befB xs R x b) || (befB xs R b x && befB xs R x a)
def manyC (xs : List Int) (i m : Nat) : Int := cnt (fun j => decide (gt xs j = gt xs i)) m
def sameC (xs R : List Int) (i m : Nat) : Int := cnt (fun j => decide (gt xs j = gt xs i) && decide (gt R j = gt R i)) m
def okR (xs R : List Int) (n i : Nat) : Prop := 1 ≤ gt R i ∧ gt R i ≤ manyC xs i n ∧ sameC xs R i n = 1
def ncR (xs R : List Int) (n i j : Nat) : Prop := betB xs R j i ((i + 1) % n) = betB xs R ((j + 1) % n) i ((i + 1) % n)
def DrawnR (xs R : List Int) (n : Nat) : Prop := R.length = n ∧ (∀ i, i < n → okR xs R n i) ∧ ∀ i j, i < n → j < n → j % 2 = i % 2 → j ≠ i → ncR xs R n i j

theorem cnt_self {i : Nat} : ∀ {m : Nat}, cnt (fun j => decide (j = i)) m = if i < m then 1 else 0
  | 0 => by rw [cnt, if_neg (by omega)]
  | m + 1 => by
    rw [cnt, cnt_self (m := m)]
    simp only [decide_eq_true_eq]
    split <;> split <;> split <;> omega
theorem same_one {xs R : List Int} {n i : Nat} (hi : i < n) : sameC xs R i n = 1 ↔ ∀ j, j < n → gt xs j = gt xs i → gt R j = gt R i → j = i := by
  have hs : cnt (fun j => decide (j = i)) n = 1 := by rw [cnt_self, if_pos hi]
  constructor
  · intro h j hj hg hr
    by_cases e : j = i
    · exact e
    · have := cnt_strict (f := fun j => decide (j = i)) (h := fun j => decide (gt xs j = gt xs i) && decide (gt R j = gt R i)) (m := n) (fun k _ hk => by
        obtain rfl : k = i := by simpa using hk
        simp) ⟨j, hj, by simp [e], by simp [hg, hr]⟩
      unfold sameC at h
      omega
  · intro h
    unfold sameC
    rw [← hs]
    refine cnt_congr ?_
    intro j hj
    rw [Bool.eq_iff_iff, Bool.and_eq_true, decide_eq_true_eq, decide_eq_true_eq, decide_eq_true_eq]
    exact ⟨fun ⟨a, b⟩ => h j hj a b, fun e => by subst e; exact ⟨rfl, rfl⟩⟩
theorem rks_iff {xs R : List Int} {n : Nat} : Rks xs R n ↔ R.length = n ∧ ∀ i, i < n → okR xs R n i := by
  unfold Rks okR manyC
  constructor
  · rintro ⟨h1, h2⟩
    exact ⟨h1, fun i hi => ⟨(h2 i hi).1, (h2 i hi).2.1, (same_one hi).2 (h2 i hi).2.2⟩⟩
  · rintro ⟨h1, h2⟩
    exact ⟨h1, fun i hi => ⟨(h2 i hi).1, (h2 i hi).2.1, (same_one hi).1 (h2 i hi).2.2⟩⟩
theorem befB_pos {xs R : List Int} {n i j : Nat} (hn : n ≤ 400) (hR : Rks xs R n) (hi : i < n) (hj : j < n) : befB xs R i j = decide (posOf xs R i < posOf xs R j) := by
  have h1 := hR.bds hi
  have h2 := hR.bds hj
  unfold befB posOf
  rw [Bool.eq_iff_iff, Bool.or_eq_true, Bool.and_eq_true, decide_eq_true_eq, decide_eq_true_eq, decide_eq_true_eq, decide_eq_true_eq]
  omega
theorem betB_pos {xs R : List Int} {n x a b : Nat} (hn : n ≤ 400) (hR : Rks xs R n) (hx : x < n) (ha : a < n) (hb : b < n) : betB xs R x a b = decide (Rk.Btw (posOf xs R x) (posOf xs R a) (posOf xs R b)) := by
  rw [Bool.eq_iff_iff, decide_eq_true_eq (p := Rk.Btw _ _ _)]
  unfold betB Rk.Btw
  rw [befB_pos hn hR ha hx, befB_pos hn hR hx hb, befB_pos hn hR hb hx, befB_pos hn hR hx ha]
  simp only [Bool.or_eq_true, Bool.and_eq_true, decide_eq_true_eq]
theorem drawnR_iff {xs R : List Int} {n : Nat} (hn : n ≤ 400) : DrawnR xs R n ↔ Rks xs R n ∧ NC n (posOf xs R) := by
  have key : Rks xs R n → ∀ i j, i < n → j < n → (ncR xs R n i j ↔ (Rk.Btw (posOf xs R j) (posOf xs R i) (posOf xs R (Rk.nx n true i)) ↔ Rk.Btw (posOf xs R (Rk.nx n true j)) (posOf xs R i) (posOf xs R (Rk.nx n true i)))) := by
    intro hR i j hi hj
    have h1 : (i + 1) % n < n := Nat.mod_lt _ (by omega)
    have h2 : (j + 1) % n < n := Nat.mod_lt _ (by omega)
    unfold ncR
    rw [betB_pos hn hR hj hi h1, betB_pos hn hR h2 hi h1, nx_mod hi, nx_mod hj, decide_eq_decide]
  unfold DrawnR
  constructor
  · rintro ⟨h1, h2, h3⟩
    have hR := rks_iff.2 ⟨h1, h2⟩
    exact ⟨hR, fun i j hi hj hij hne => (key hR i j hi hj).1 (h3 i j hi hj hij.symm hne.symm)⟩
  · rintro ⟨hR, hc⟩
    obtain ⟨h1, h2⟩ := rks_iff.1 hR
    exact ⟨h1, h2, fun i j hi hj hij hne => (key hR i j hi hj).2 (hc i j hi hj hij.symm hne.symm)⟩

/-- The ranks that line.Ranks returns are those that the reference accepts. -/
theorem ranksM_drawn {xs R : List Int} {n : Nat} (hl : xs.length = n) (hr : reducedB xs = true) : ranksM xs n = some R ↔ DrawnR xs R n := by
  obtain ⟨_, hn, _⟩ := red_rng hr
  rw [hl] at hn
  rw [ranksM_iff hl hr, drawnR_iff hn]

end Go.Proofs.YtbbpockkafbfmaaDoor.Lw

namespace Go.Proofs.YtbbpockkafbfmaaDoor.Lw
open Go.RowKit

/-- Only draws lie between the worlds. -/
def Drew (w w' : World) : Prop := ∃ q, w' = w.drewN q
theorem Drew.refl (w : World) : Drew w w := ⟨0, rfl⟩
theorem Drew.trans {w w1 w2 : World} (h : Drew w w1) (h2 : Drew w1 w2) : Drew w w2 := by
  obtain ⟨q, rfl⟩ := h
  obtain ⟨q2, rfl⟩ := h2
  exact ⟨q + q2, by rw [World.drewN_drewN]⟩
theorem Drew.sl {w w' : World} {A : Option Addr} {n : Nat} {xs : List Int} (h : Drew w w') (hs : SL w A n xs) : SL w' A n xs := by
  obtain ⟨q, rfl⟩ := h
  exact hs.drewN q
theorem Drew.below {w w' : World} (h : Drew w w') : Below w.heap.size w w' := by
  obtain ⟨q, rfl⟩ := h
  exact below_drewN (Below.refl _ _) _

theorem befB_of {xs R : List Int} {i j : Nat} {x y u v : Int} (hx : xs[i]? = some x) (hy : xs[j]? = some y) (hu : R[i]? = some u) (hv : R[j]? = some v) : befB xs R i j = (decide (x < y) || (decide (x = y) && decide (u < v))) := by
  unfold befB gt
  simp only [List.getD_eq_getElem?_getD, hx, hy, hu, hv, Option.getD_some]

set_option maxHeartbeats 1000000 in
theorem before_calls (A1 A2 : Option Addr) (n c1 c2 : Nat) (xs R : List Int) (i j : Nat) (w : World) (h1 : SL w A1 n xs) (h2 : SL w A2 n R) (hi : i < n) (hj : j < n) (_hn : n ≤ 1000) :
    Calls Tryd.prog 89 #[.slice A1 n c1, .slice A2 n c2, .int .i64 (i : Int), .int .i64 (j : Int)] w fun e w' => e = .returned (.bool (befB xs R i j)) ∧ ∃ q, w' = w.drewN q := by
  obtain ⟨b, off, x, rfl, _, hx, hcx⟩ := h1.at_ hi
  obtain ⟨b', off', y, hA, _, hy, hcy⟩ := h1.at_ hj
  obtain ⟨rfl, rfl⟩ : b = b' ∧ off = off' := by injection hA with hA; injection hA with e1 e2; exact ⟨e1, e2⟩
  obtain ⟨d, off2, u, rfl, _, hu, hcu⟩ := h2.at_ hi
  obtain ⟨d', off3, v, hA2, _, hv, hcv⟩ := h2.at_ hj
  obtain ⟨rfl, rfl⟩ : d = d' ∧ off2 = off3 := by injection hA2 with hA; injection hA with e1 e2; exact ⟨e1, e2⟩
  have HB := Lib.hid (befB_of hx hy hu hv)
  have hi1 : (i : Int) < n := by omega
  have hj1 : (j : Int) < n := by omega
  clear hx hy hu hv hA hA2
  rcases Int.lt_trichotomy x y with hlt | he | hgt
  · go_enter Tryd.func89, Tryd.ntmps89
    go_wp2_with fail
    go_quiet (fail)
    go_wp2_with fail
    go_ret
    exact ⟨ret_bool (by rw [HB.out]; simp [hlt]), _, rfl⟩
  · subst he
    have h0 : ¬ x < x := Int.lt_irrefl x
    go_enter Tryd.func89, Tryd.ntmps89
    go_wp2_with fail
    go_quiet (fail)
    go_wp2_with fail
    go_ret
    exact ⟨ret_bool (by rw [HB.out]; simp), _, rfl⟩
  · have h0 : ¬ x < y := by omega
    have hne : ¬ x = y := by omega
    have hbe : (x == y) = false := by rw [beq_eq_false_iff_ne]; exact hne
    have HNE := Lib.hid hne
    have hd : decide (x < y) = false := by simpa using h0
    clear hne hgt
    go_enter Tryd.func89, Tryd.ntmps89
    go_wp2_with fail
    go_quiet (fail)
    go_wp2_with fail
    go_ret
    exact ⟨ret_bool (by rw [HB.out]; simp [hd, HNE.out]), _, rfl⟩

set_option maxHeartbeats 4000000 in
set_option maxRecDepth 100000 in
theorem between_calls (A1 A2 : Option Addr) (n c1 c2 : Nat) (xs R : List Int) (x a b : Nat) (w : World) (h1 : SL w A1 n xs) (h2 : SL w A2 n R) (hx : x < n) (ha : a < n) (hb : b < n) (hn : n ≤ 1000) :
    Calls Tryd.prog 53 #[.slice A1 n c1, .slice A2 n c2, .int .i64 (x : Int), .int .i64 (a : Int), .int .i64 (b : Int)] w fun e w' => e = .returned (.bool (betB xs R x a b)) ∧ ∃ q, w' = w.drewN q := by
  have HE : betB xs R x a b = ((befB xs R a x && befB xs R x b) || (befB xs R b x && befB xs R x a)) := rfl
  rw [HE]
  have HC : Hid (∀ (i j : Nat) (w' : World), Drew w w' → i < n → j < n → Calls Tryd.prog 89 #[.slice A1 n c1, .slice A2 n c2, .int .i64 (i : Int), .int .i64 (j : Int)] w' fun e w'' => e = .returned (.bool (befB xs R i j)) ∧ Drew w w'') := by
    unfold Hid
    intro i j w' hd hi hj
    refine (before_calls A1 A2 n c1 c2 xs R i j w' (hd.sl h1) (hd.sl h2) hi hj hn).mono ?_
    rintro e w'' ⟨he, hw⟩
    exact ⟨he, hd.trans hw⟩
  have K1 := Lib.hid (fun w' hd => HC.out a x w' hd ha hx)
  have K2 := Lib.hid (fun w' hd => HC.out x b w' hd hx hb)
  have K3 := Lib.hid (fun w' hd => HC.out b x w' hd hb hx)
  have K4 := Lib.hid (fun w' hd => HC.out x a w' hd hx ha)
  clear HE HC
  generalize befB xs R a x = p1 at K1 ⊢
  generalize befB xs R x b = p2 at K2 ⊢
  generalize befB xs R b x = p3 at K3 ⊢
  generalize befB xs R x a = p4 at K4 ⊢
  clear hx ha hb h1 h2
  suffices hs : Calls Tryd.prog 53 #[.slice A1 n c1, .slice A2 n c2, .int .i64 (x : Int), .int .i64 (a : Int), .int .i64 (b : Int)] w fun e w' => e = .returned (.bool ((p1 && p2) || (p3 && p4))) ∧ Drew w w' from hs
  go_enter Tryd.func53, Tryd.ntmps53
  go_wp2_with fail
  refine (K1.out _ (Drew.refl w)).mono ?_
  rintro e w1 ⟨rfl, d1⟩
  cases p1
  · go_wp2_with fail
    refine (K3.out _ d1).mono ?_
    rintro e w3 ⟨rfl, d3⟩
    cases p3
    · go_wp2_with fail
      go_ret
      exact ⟨rfl, d3⟩
    · go_wp2_with fail
      refine (K4.out _ d3).mono ?_
      rintro e w4 ⟨rfl, d4⟩
      go_wp2_with fail
      go_ret
      exact ⟨by simp, d4⟩
  · go_wp2_with fail
    refine (K2.out _ d1).mono ?_
    rintro e w2 ⟨rfl, d2⟩
    cases p2
    · go_wp2_with fail
      refine (K3.out _ d2).mono ?_
      rintro e w3 ⟨rfl, d3⟩
      cases p3
      · go_wp2_with fail
        go_ret
        exact ⟨rfl, d3⟩
      · go_wp2_with fail
        refine (K4.out _ d3).mono ?_
        rintro e w4 ⟨rfl, d4⟩
        go_wp2_with fail
        go_ret
        exact ⟨by simp, d4⟩
    · go_wp2_with fail
      go_ret
      exact ⟨rfl, d2⟩

theorem manyC_succ {xs : List Int} {i j : Nat} {x y : Int} (hx : xs[j]? = some x) (hy : xs[i]? = some y) : manyC xs i (j + 1) = manyC xs i j + if x = y then 1 else 0 := by
  unfold manyC
  rw [cnt]
  unfold gt
  simp only [List.getD_eq_getElem?_getD, hx, hy, Option.getD_some, decide_eq_true_eq]
theorem sameC_succ {xs R : List Int} {i j : Nat} {x y u v : Int} (hx : xs[j]? = some x) (hy : xs[i]? = some y) (hu : R[j]? = some u) (hv : R[i]? = some v) : sameC xs R i (j + 1) = sameC xs R i j + if x = y ∧ u = v then 1 else 0 := by
  unfold sameC
  rw [cnt]
  unfold gt
  simp only [List.getD_eq_getElem?_getD, hx, hy, hu, hv, Option.getD_some, Bool.and_eq_true, decide_eq_true_eq]

/-- What Drawn answers. -/
def DrawnPost (xs R : List Int) (n : Nat) (w : World) (e : Ending) (w' : World) : Prop := ∃ b, e = .returned (.bool b) ∧ (b = true ↔ DrawnR xs R n) ∧ ∃ q, w' = w.drewN q
theorem DrawnPost.no {xs R : List Int} {n : Nat} {w w' : World} (h : ¬ DrawnR xs R n) (hw : ∃ q, w' = w.drewN q) : DrawnPost xs R n w (.returned (.bool false)) w' :=
  ⟨false, rfl, ⟨fun c => absurd c (by decide), fun D => absurd D h⟩, hw⟩
theorem DrawnPost.yes {xs R : List Int} {n : Nat} {w w' : World} (h : DrawnR xs R n) (hw : ∃ q, w' = w.drewN q) : DrawnPost xs R n w (.returned (.bool true)) w' :=
  ⟨true, rfl, ⟨fun _ => h, fun _ => rfl⟩, hw⟩
def CountRel (xs R : List Int) (n i : Nat) (w : World) (m s j : Value) (wr : World) : Prop :=
  ∃ k q : Nat, k ≤ n ∧ j = .int .i64 k ∧ m = .int .i64 (manyC xs i k) ∧ s = .int .i64 (sameC xs R i k) ∧ wr = w.drewN q
def OkRel (xs R : List Int) (n : Nat) (w : World) (i : Value) (wr : World) : Prop :=
  ∃ k q : Nat, k ≤ n ∧ i = .int .i64 k ∧ (∀ a, a < k → okR xs R n a) ∧ wr = w.drewN q
def NcRel (xs R : List Int) (n : Nat) (w : World) (i : Value) (wr : World) : Prop :=
  ∃ k q : Nat, k ≤ n ∧ i = .int .i64 k ∧ (∀ a b, a < k → b < n → b % 2 = a % 2 → b ≠ a → ncR xs R n a b) ∧ wr = w.drewN q
def NcIn (xs R : List Int) (n i : Nat) (w : World) (j : Value) (wr : World) : Prop :=
  ∃ k q : Nat, k ≤ n + 1 ∧ k % 2 = i % 2 ∧ j = .int .i64 k ∧ (∀ b, b < k → b < n → b % 2 = i % 2 → b ≠ i → ncR xs R n i b) ∧ wr = w.drewN q

set_option maxHeartbeats 20000000 in
set_option maxRecDepth 100000 in
theorem drawnR_calls (A1 A2 : Option Addr) (n m c1 c2 : Nat) (xs R : List Int) (w : World) (h1 : SL w A1 n xs) (h2 : SL w A2 m R) (hn : n ≤ 400) (hm : m ≤ 1000) :
    Calls Tryd.prog 24 #[.slice A1 n c1, .slice A2 m c2] w (DrawnPost xs R n w) := by
  have HL2 := Lib.hid h2.1
  by_cases hmn : m = n
  · subst hmn
    go_enter Tryd.func24, Tryd.ntmps24
    go_wp2_with fail
    go_loopw [6] (fun i wr => OkRel xs R m w i wr) (fun i _ => m - (intOf i).toNat)
    case atStart => exact ⟨0, 0, Nat.zero_le _, rfl, fun a ha => by omega, rfl⟩
    case round =>
      obtain ⟨i, q, hi, rfl, hall, rfl⟩ := hrel
      have HALL := Lib.hid hall
      clear hall
      by_cases hlt : i < m
      · obtain ⟨b, off, y, rfl, _, hy, hcy⟩ := h1.at_ hlt
        obtain ⟨d, off2, v, rfl, _, hv, hcv⟩ := h2.at_ hlt
        have hi1 : (i : Int) < m := by omega
        have HY := Lib.hid hy
        have HV := Lib.hid hv
        clear hy hv
        go_wp2_with fail
        go_loopw [7, 8, 9] (fun mv sv jv wr => CountRel xs R m i w mv sv jv wr) (fun _ _ jv _ => m - (intOf jv).toNat)
        case atStart => exact ⟨0, q, Nat.zero_le _, rfl, rfl, rfl, rfl⟩
        case round =>
          obtain ⟨j, q2, hj, rfl, rfl, rfl, rfl⟩ := hrel
          have m0 := cnt_nonneg (fun j => decide (gt xs j = gt xs i)) j
          have m1 := cnt_le (fun j => decide (gt xs j = gt xs i)) j
          have s0 := cnt_nonneg (fun j => decide (gt xs j = gt xs i) && decide (gt R j = gt R i)) j
          have s1 := cnt_le (fun j => decide (gt xs j = gt xs i) && decide (gt R j = gt R i)) j
          obtain ⟨mc, hmc⟩ : ∃ mc, manyC xs i j = mc := ⟨_, rfl⟩
          obtain ⟨sc, hsc⟩ : ∃ sc, sameC xs R i j = sc := ⟨_, rfl⟩
          have m0' : 0 ≤ mc := by rw [← hmc]; exact m0
          have m1' : mc ≤ j := by rw [← hmc]; exact m1
          have s0' : 0 ≤ sc := by rw [← hsc]; exact s0
          have s1' : sc ≤ j := by rw [← hsc]; exact s1
          rw [hmc, hsc]
          clear m0 m1 s0 s1
          by_cases hjl : j < m
          · obtain ⟨b', off', x, hA, _, hx, hcx⟩ := h1.at_ hjl
            obtain ⟨rfl, rfl⟩ : b = b' ∧ off = off' := by injection hA with hA; injection hA with e1 e2; exact ⟨e1, e2⟩
            obtain ⟨d', off3, u, hA2, _, hu, hcu⟩ := h2.at_ hjl
            obtain ⟨rfl, rfl⟩ : d = d' ∧ off2 = off3 := by injection hA2 with hA; injection hA with e1 e2; exact ⟨e1, e2⟩
            have hj1 : (j : Int) < m := by omega
            have HM := Lib.hid (manyC_succ hx HY.out)
            have HS := Lib.hid (sameC_succ hx HY.out hu HV.out)
            rw [hmc] at HM
            rw [hsc] at HS
            clear hx hu hA hA2 hmc hsc
            by_cases hxy : x = y
            · have e1 : (x == y) = true := by rw [beq_iff_eq]; exact hxy
              have HXY := Lib.hid hxy
              clear hxy
              by_cases huv : u = v
              · have e2 : (u == v) = true := by rw [beq_iff_eq]; exact huv
                have HUV := Lib.hid huv
                clear huv
                go_wp2_with fail
                go_quiet (fail)
                go_wp2_with fail
                go_quiet (fail)
                go_wp2_with fail
                go_roundw
                case rel => exact ⟨j + 1, _, by omega, by rw [Int.natCast_add]; rfl, by rw [HM.out, if_pos HXY.out], by rw [HS.out, if_pos ⟨HXY.out, HUV.out⟩], rfl⟩
                case measure => simp [intOf]; omega
              · have e2 : (u == v) = false := by rw [beq_eq_false_iff_ne]; exact huv
                have HUV := Lib.hid huv
                clear huv
                go_wp2_with fail
                go_quiet (fail)
                go_wp2_with fail
                go_quiet (fail)
                go_wp2_with fail
                go_roundw
                case rel => exact ⟨j + 1, _, by omega, by rw [Int.natCast_add]; rfl, by rw [HM.out, if_pos HXY.out], by rw [HS.out, if_neg (fun c => HUV.out c.2), Int.add_zero], rfl⟩
                case measure => simp [intOf]; omega
            · have e1 : (x == y) = false := by rw [beq_eq_false_iff_ne]; exact hxy
              have HXY := Lib.hid hxy
              clear hxy
              go_wp2_with fail
              go_quiet (fail)
              go_wp2_with fail
              go_roundw
              case rel => exact ⟨j + 1, _, by omega, by rw [Int.natCast_add]; rfl, by rw [HM.out, if_neg HXY.out, Int.add_zero], by rw [HS.out, if_neg (fun c => HXY.out c.1), Int.add_zero], rfl⟩
              case measure => simp [intOf]; omega
          · obtain rfl : j = m := by omega
            have HO : Hid (okR xs R j i ↔ 1 ≤ v ∧ v ≤ mc ∧ sc = 1) := by
              unfold Hid okR gt
              rw [List.getD_eq_getElem?_getD, HV.out, hmc, hsc]
              rfl
            clear hmc hsc
            have NO : Hid (¬ (1 ≤ v ∧ v ≤ mc ∧ sc = 1) → ¬ DrawnR xs R j) := fun hno hD => hno (HO.out.1 (hD.2.1 i hlt))
            by_cases hv1 : v < 1
            · have HN := Lib.hid (NO.out (by omega))
              go_wp2_with fail
              go_ret
              exact DrawnPost.no HN.out ⟨_, rfl⟩
            · by_cases hv2 : mc < v
              · have HN := Lib.hid (NO.out (by omega))
                go_wp2_with fail
                go_ret
                exact DrawnPost.no HN.out ⟨_, rfl⟩
              · by_cases hs1 : sc = 1
                · have HY2 := Lib.hid (HO.out.2 ⟨by omega, by omega, hs1⟩)
                  subst hs1
                  go_wp2_with fail
                  go_roundw
                  case rel => exact ⟨i + 1, _, by omega, by rw [Int.natCast_add]; rfl, fun a ha => by
                    by_cases e : a = i
                    · subst e; exact HY2.out
                    · exact HALL.out a (by omega), rfl⟩
                  case measure => simp [intOf]; omega
                · have HN := Lib.hid (NO.out (by omega))
                  have e3 : (sc != 1) = true := by rw [bne_iff_ne]; exact hs1
                  clear hs1
                  go_wp2_with fail
                  go_ret
                  exact DrawnPost.no HN.out ⟨_, rfl⟩
      · obtain rfl : i = m := by omega
        go_wp2_with fail
        go_loopw [10] (fun i' wr => NcRel xs R i w i' wr) (fun i' _ => i - (intOf i').toNat)
        case atStart => exact ⟨0, q, Nat.zero_le _, rfl, fun a b ha => by omega, rfl⟩
        case round =>
          obtain ⟨a, q2, ha, rfl, hnc, hwr⟩ := hrel
          have HNC := Lib.hid hnc
          have HWR := Lib.hid hwr
          clear hnc hwr
          by_cases hal : a < i
          · have ha1 : (a : Int) < i := by omega
            have ha2 : (a : Int) % 2 = ((a % 2 : Nat) : Int) := by omega
            go_wp2_with fail
            go_loopw [11] (fun j' wr => NcIn xs R i a w j' wr) (fun j' _ => i + 1 - (intOf j').toNat)
            case atStart => exact ⟨a % 2, _, by omega, by omega, rfl, fun b hb => by omega, HWR.out⟩
            case round =>
              obtain ⟨b, q3, hb, hab, rfl, hnc, hwr2⟩ := hrel
              have HNI := Lib.hid hnc
              clear hnc
              have s1 : SL wr A1 i xs := hwr2 ▸ h1.drewN q3
              have s2 : SL wr A2 i R := hwr2 ▸ h2.drewN q3
              have HW2 := Lib.hid hwr2
              clear hwr2
              by_cases hbl : b < i
              · have hb1 : (b : Int) < i := by omega
                by_cases hba : b = a
                · have hne : (b : Int) = (a : Int) := by omega
                  have hne2 : ((b : Int) != (a : Int)) = false := by rw [bne_eq_false_iff_eq]; exact hne
                  have HBA := Lib.hid hba
                  clear hba hne
                  go_wp2_with fail
                  go_quiet (fail)
                  go_wp2_with fail
                  go_roundw
                  case rel => exact ⟨b + 2, _, by omega, by omega, by rw [Int.natCast_add]; rfl, fun c hc hcl hca hne => by
                    by_cases e : c < b
                    · exact HNI.out c e hcl hca hne
                    · exact absurd (show c = a by have := HBA.out; omega) hne, (by rw [HW2.out, World.drewN_drewN])⟩
                  case measure => simp [intOf]; omega
                · have hne : ¬ (b : Int) = (a : Int) := by omega
                  have hne2 : ((b : Int) != (a : Int)) = true := by rw [bne_iff_ne]; exact hne
                  have l1 : (a + 1) % i < i := Nat.mod_lt _ (by omega)
                  have l2 : (b + 1) % i < i := Nat.mod_lt _ (by omega)
                  have hm1 : ((a : Int) + 1) % (i : Int) = ((a + 1) % i : Nat) := by rw [← Int.natCast_one, ← Int.natCast_add, ← Int.natCast_emod]
                  have hm2 : ((b : Int) + 1) % (i : Int) = ((b + 1) % i : Nat) := by rw [← Int.natCast_one, ← Int.natCast_add, ← Int.natCast_emod]
                  have K1 := Lib.hid (fun q => between_calls A1 A2 i c1 c2 xs R b a ((a + 1) % i) (wr.drewN q) (s1.drewN q) (s2.drewN q) hbl hal l1 (by omega))
                  have K2 := Lib.hid (fun q => between_calls A1 A2 i c1 c2 xs R ((b + 1) % i) a ((a + 1) % i) (wr.drewN q) (s1.drewN q) (s2.drewN q) l2 hal l1 (by omega))
                  have HN : Hid (ncR xs R i a b ↔ betB xs R b a ((a + 1) % i) = betB xs R ((b + 1) % i) a ((a + 1) % i)) := Iff.rfl
                  generalize betB xs R b a ((a + 1) % i) = p1 at K1 HN
                  generalize betB xs R ((b + 1) % i) a ((a + 1) % i) = p2 at K2 HN
                  generalize (a + 1) % i = a1 at hm1 K1 K2 l1
                  generalize (b + 1) % i = b1 at hm2 K2 l2
                  have HI := Lib.hid hne
                  clear hne
                  by_cases hp : p1 = p2
                  · have HN2 := Lib.hid (HN.out.2 hp)
                    subst hp
                    have hpp : (p1 != p1) = false := by simp
                    go_wp2_with fail
                    go_quiet ((go_at_call 53; first | (with_reducible refine Calls.quiet_of (K1.out _)) | (with_reducible refine Calls.quiet_of (K2.out _))))
                    go_wp2_with fail
                    go_roundw
                    case rel => exact ⟨b + 2, _, by omega, by omega, by rw [Int.natCast_add]; rfl, fun c hc hcl hca hne => by
                      by_cases e : c < b
                      · exact HNI.out c e hcl hca hne
                      · obtain rfl : c = b := by omega
                        exact HN2.out, (by rw [HW2.out, World.drewN_drewN])⟩
                    case measure => simp [intOf]; omega
                  · have HNO : Hid (¬ DrawnR xs R i) := fun D => hp (HN.out.1 (D.2.2 a b hal hbl hab (fun e => HI.out (by rw [e]))))
                    obtain rfl : p2 = !p1 := by cases p1 <;> cases p2 <;> simp_all
                    have hpp : (p1 != !p1) = true := by simp
                    clear hp
                    go_wp2_with fail
                    go_quiet ((go_at_call 53; first | (with_reducible refine Calls.quiet_of (K1.out _)) | (with_reducible refine Calls.quiet_of (K2.out _))))
                    go_wp2_with fail
                    go_ret
                    exact DrawnPost.no HNO.out ⟨_, (by rw [HW2.out, World.drewN_drewN])⟩
              · have hb1 : ¬ (b : Int) < i := by omega
                go_wp2_with fail
                go_roundw
                case rel => exact ⟨a + 1, _, by omega, by rw [Int.natCast_add]; rfl, fun a' b' ha' hb' hab' hne => by
                  by_cases e : a' = a
                  · subst e; exact HNI.out b' (by omega) hb' hab' hne
                  · exact HNC.out a' b' (by omega) hb' hab' hne, HW2.out⟩
                case measure => simp [intOf]; omega
          · obtain rfl : a = i := by omega
            go_wp2_with fail
            go_ret
            exact DrawnPost.yes ⟨HL2.out, HALL.out, fun c d hc hd hcd hne => HNC.out c d hc hd hcd hne⟩ ⟨_, HWR.out⟩
  · have hne : ¬ (m : Int) = (n : Int) := by omega
    have hne2 : ((m : Int) != (n : Int)) = true := by rw [bne_iff_ne]; exact hne
    have HNO : Hid (¬ DrawnR xs R n) := fun D => hmn (by rw [← HL2.out]; exact D.1)
    clear hmn
    go_enter Tryd.func24, Tryd.ntmps24
    go_wp2_with fail
    go_ret
    exact DrawnPost.no HNO.out ⟨0, rfl⟩

end Go.Proofs.YtbbpockkafbfmaaDoor.Lw

namespace Go.Proofs.YtbbpockkafbfmaaDoor.Lw
open Go.RowKit

/-- The arcs that lie in a block. -/
def AL (w : World) (g : Nat) (l : List (Int × Int)) : Prop :=
  g < w.heap.size ∧ ∀ k p, l[k]? = some p → w.cell? ⟨g, k * 2, none⟩ = some (.int .i64 p.1) ∧ w.cell? ⟨g, k * 2 + 1, none⟩ = some (.int .i64 p.2)
theorem AL.below {w w' : World} {g : Nat} {l : List (Int × Int)} (h : AL w g l) (hb : Below w.heap.size w w') : AL w' g l :=
  ⟨Nat.lt_of_lt_of_le h.1 hb.size, fun k p hp => by
    obtain ⟨h1, h2⟩ := h.2 k p hp
    exact ⟨(hb.cell (p := ⟨g, _, none⟩) h.1).trans h1, (hb.cell (p := ⟨g, _, none⟩) h.1).trans h2⟩⟩

set_option maxHeartbeats 1000000 in
theorem within_calls (a b x : Int) (w : World) : Calls Tryd.prog 114 #[.agg #[.int .i64 a, .int .i64 b], .int .i64 x] w fun e w' => e = .returned (.bool (winB (a, b) x)) ∧ Below w.heap.size w w' := by
  have HE : Hid (winB (a, b) x = (decide (a < x) && decide (x < b))) := rfl
  by_cases h1 : a < x
  · go_enter Tryd.func114, Tryd.ntmps114
    go_wp2_with fail
    try go_quiet (fail)
    try go_wp2_with fail
    go_ret
    exact ⟨ret_bool (by rw [HE.out]; simp [h1]), by first | exact (Below.refl _ _).alloc (Nat.le_refl _) _ | exact below_drewN ((Below.refl _ _).alloc (Nat.le_refl _) _) _⟩
  · have hd : decide (a < x) = false := by simpa using h1
    go_enter Tryd.func114, Tryd.ntmps114
    go_wp2_with fail
    try go_quiet (fail)
    try go_wp2_with fail
    go_ret
    exact ⟨ret_bool (by rw [HE.out]; simp [hd]), by first | exact (Below.refl _ _).alloc (Nat.le_refl _) _ | exact below_drewN ((Below.refl _ _).alloc (Nat.le_refl _) _) _⟩

def TangRel (l : List (Int × Int)) (n : Nat) (w : World) (i : Value) (wr : World) : Prop := ∃ j : Nat, j ≤ n ∧ i = .int .i64 j ∧ (∀ a b, a < j → b < a → crossB l a b = false) ∧ Below w.heap.size w wr
def TangIn (l : List (Int × Int)) (i : Nat) (w : World) (v : Value) (wr : World) : Prop := ∃ j : Nat, j ≤ i ∧ v = .int .i64 j ∧ (∀ b, b < j → crossB l i b = false) ∧ Below w.heap.size w wr
theorem tanB_true {l : List (Int × Int)} {i j : Nat} (hi : i < l.length) (hj : j < i) (h : crossB l i j = true) : tanB l = true := by
  cases e : tanB l with
  | true => rfl
  | false => rw [tanB_false.1 e i j hi hj] at h; cases h
theorem arc_made (w : World) (a b : Int) : w.heap.size < (w.alloc (.cells #[.int .i64 a, .int .i64 b] 136)).heap.size ∧
    (w.alloc (.cells #[.int .i64 a, .int .i64 b] 136)).cell? ⟨w.heap.size, 0, none⟩ = some (.int .i64 a) ∧ (w.alloc (.cells #[.int .i64 a, .int .i64 b] 136)).cell? ⟨w.heap.size, 1, none⟩ = some (.int .i64 b) := by
  have h := (SL.made w 136 [a, b]).2 (by simp)
  obtain ⟨g, off, e, hg, hc⟩ := h
  injection e with e
  injection e with e1 e2
  subst e1; subst e2
  exact ⟨by simp, hc 0 (by simp), hc 1 (by simp)⟩

/-- The cells that the test of a pair reads. -/
def PairS (W1 : World) (P B : Nat) (p1 p2 q1 q2 : Int) (w' : World) : Prop :=
  w'.cell? ⟨P, 0, none⟩ = some (.int .i64 p1) ∧ w'.cell? ⟨P, 1, none⟩ = some (.int .i64 p2) ∧ w'.cell? ⟨B, 0, none⟩ = some (.int .i64 q1) ∧ w'.cell? ⟨B, 1, none⟩ = some (.int .i64 q2) ∧ Below W1.heap.size W1 w'
theorem PairS.keep {W1 : World} {P B : Nat} {p1 p2 q1 q2 : Int} {w' w'' : World} (hP : P < W1.heap.size) (hB : B < W1.heap.size) (h : PairS W1 P B p1 p2 q1 q2 w') (hb : Below w'.heap.size w' w'') : PairS W1 P B p1 p2 q1 q2 w'' := by
  obtain ⟨h1, h2, h3, h4, h5⟩ := h
  have hP' := Nat.lt_of_lt_of_le hP h5.size
  have hB' := Nat.lt_of_lt_of_le hB h5.size
  exact ⟨(hb.cell (p := ⟨P, 0, none⟩) hP').trans h1, (hb.cell (p := ⟨P, 1, none⟩) hP').trans h2, (hb.cell (p := ⟨B, 0, none⟩) hB').trans h3, (hb.cell (p := ⟨B, 1, none⟩) hB').trans h4, h5.trans (hb.mono h5.size)⟩

set_option maxHeartbeats 4000000 in
set_option maxRecDepth 100000 in
theorem tangled_calls (g n c : Nat) (l : List (Int × Int)) (w : World) (h : AL w g l) (hn : l.length = n) (hbig : n ≤ 1000) (hc : n ≤ c) :
    Calls Tryd.prog 92 #[.slice (some ⟨g, 0, none⟩) n c] w fun e w' => e = .returned (.bool (tanB l)) ∧ Below w.heap.size w w' := by
  have HN := Lib.hid hn
  have H := Lib.hid h
  clear hn h
  go_enter Tryd.func92, Tryd.ntmps92
  go_wp2_with fail
  go_loopw [9] (fun i wr => TangRel l n w i wr) (fun i _ => n - (intOf i).toNat)
  case atStart => exact ⟨0, Nat.zero_le _, rfl, fun a b ha => by omega, Below.refl _ _⟩
  case round =>
    obtain ⟨i, hi, rfl, hall, hb⟩ := hrel
    have HALL := Lib.hid hall
    have HB := Lib.hid hb
    clear hall
    by_cases hlt : i < n
    · obtain ⟨p, hp⟩ : ∃ p, l[i]? = some p := ⟨_, List.getElem?_eq_getElem (by rw [HN.out]; exact hlt)⟩
      obtain ⟨h0, h1⟩ := (H.out.below hb).2 i p hp
      have HP := Lib.hid hp
      have hic : (i : Int) ≤ c := by omega
      obtain ⟨p1, p2⟩ := p
      simp only at h0 h1
      clear hp hb
      go_wp2_with fail
      obtain ⟨m0, m1, m2⟩ := arc_made wr p1 p2
      have HA0 := Lib.hid m1
      have HA1 := Lib.hid m2
      have HSZ := Lib.hid m0
      clear m0 m1 m2
      have HBA : Hid (Below w.heap.size w (wr.alloc (.cells #[.int .i64 p1, .int .i64 p2] 136))) := HB.out.alloc HB.out.size _
      obtain ⟨W0, hW0⟩ : ∃ W0, W0 = wr.alloc (.cells #[.int .i64 p1, .int .i64 p2] 136) := ⟨_, rfl⟩
      obtain ⟨P, hP⟩ : ∃ P, P = wr.heap.size := ⟨_, rfl⟩
      rw [← hW0, ← hP] at HA0 HA1 HSZ ⊢
      rw [← hW0] at HBA
      clear hW0 hP h0 h1
      go_loopw [18] (fun v wr => TangIn l i W0 v wr) (fun v _ => i - (intOf v).toNat)
      case atStart => exact ⟨0, Nat.zero_le _, rfl, fun b hb => by omega, Below.refl _ _⟩
      case round =>
        obtain ⟨j, hj, rfl, hin, hbi⟩ := hrel
        have HIN := Lib.hid hin
        have HBI := Lib.hid hbi
        clear hin hbi
        by_cases hji : j < i
        · have hji1 : (j : Int) < i := by omega
          obtain ⟨q, hq⟩ : ∃ q, l[j]? = some q := ⟨_, List.getElem?_eq_getElem (by rw [HN.out]; omega)⟩
          have HBW := Lib.hid (HBA.out.trans (HBI.out.mono HBA.out.size))
          obtain ⟨h0, h1⟩ := (H.out.below HBW.out).2 j q hq
          obtain ⟨q1, q2⟩ := q
          simp only at h0 h1
          have hPlt : P < wr.heap.size := Nat.lt_of_lt_of_le HSZ.out HBI.out.size
          have ha0 : wr.cell? ⟨P, 0, none⟩ = some (.int .i64 p1) := (HBI.out.cell (p := ⟨P, 0, none⟩) HSZ.out).trans HA0.out
          have ha1 : wr.cell? ⟨P, 1, none⟩ = some (.int .i64 p2) := (HBI.out.cell (p := ⟨P, 1, none⟩) HSZ.out).trans HA1.out
          have HC : Hid (crossB l i j = (winB (p1, p2) q1 != winB (p1, p2) q2)) := by
            unfold Hid crossB
            rw [List.getD_eq_getElem?_getD, List.getD_eq_getElem?_getD, HP.out, hq]
            rfl
          have K1 := Lib.hid (fun w' => within_calls p1 p2 q1 w')
          have K2 := Lib.hid (fun w' => within_calls p1 p2 q2 w')
          generalize winB (p1, p2) q1 = b1 at K1 HC
          generalize winB (p1, p2) q2 = b2 at K2 HC
          clear hq
          go_wp2_with fail
          obtain ⟨m0, m1, m2⟩ := arc_made wr q1 q2
          have hbw1 : Below wr.heap.size wr (wr.alloc (.cells #[.int .i64 q1, .int .i64 q2] 136)) := (Below.refl _ _).alloc (Nat.le_refl _) _
          have HBI1 := Lib.hid (HBI.out.trans (hbw1.mono HBI.out.size))
          have ga0 := (hbw1.cell (p := ⟨P, 0, none⟩) hPlt).trans ha0
          have ga1 := (hbw1.cell (p := ⟨P, 1, none⟩) hPlt).trans ha1
          have hPlt1 : P < (wr.alloc (.cells #[.int .i64 q1, .int .i64 q2] 136)).heap.size := Nat.lt_of_lt_of_le hPlt hbw1.size
          obtain ⟨W1, hW1⟩ : ∃ W1, W1 = wr.alloc (.cells #[.int .i64 q1, .int .i64 q2] 136) := ⟨_, rfl⟩
          obtain ⟨B, hB⟩ : ∃ B, B = wr.heap.size := ⟨_, rfl⟩
          rw [← hW1] at m0 m1 m2 HBI1 ga0 ga1 hPlt1 ⊢
          rw [← hB] at m0 m1 m2 ⊢
          clear hW1 hB hbw1 ha0 ha1 h0 h1 hPlt
          have HS0 := Lib.hid (show PairS W1 P B p1 p2 q1 q2 W1.drew from ⟨ga0, ga1, m1, m2, (Below.refl _ _).drew⟩)
          have HM0 := Lib.hid m0
          have HP1 := Lib.hid hPlt1
          clear ga0 ga1 m0 m1 m2 hPlt1
          by_cases hbb : b1 = b2
          · subst hbb
            go_region_held3 (fun w' => w'.cell? ⟨P, 0, none⟩ = some (.int .i64 p1) ∧ w'.cell? ⟨P, 1, none⟩ = some (.int .i64 p2) ∧ w'.cell? ⟨B, 0, none⟩ = some (.int .i64 q1) ∧ w'.cell? ⟨B, 1, none⟩ = some (.int .i64 q2) ∧ Below W1.heap.size W1 w')
              (first | exact HS0.out | exact PairS.keep HP1.out HM0.out (by assumption) hbw)
              (first
                | (go_at_call 114; (with_reducible refine (K1.out _).mono ?_); rintro e w2 ⟨rfl, hbw⟩)
                | (go_at_call 114; (with_reducible refine (K2.out _).mono ?_); rintro e w2 ⟨rfl, hbw⟩))
            have hS : PairS W1 P B p1 p2 q1 q2 w2 := by assumption
            have HSS := Lib.hid hS
            clear hS
            go_wp2_with fail
            go_roundw
            case rel => exact ⟨j + 1, by omega, by rw [Int.natCast_add]; rfl, fun b hb => by
              by_cases e : b = j
              · subst e; rw [HC.out]; simp
              · exact HIN.out b (by omega), HBI1.out.trans (HSS.out.2.2.2.2.mono HBI1.out.size)⟩
            case measure => simp [intOf]; omega
          · obtain rfl : b2 = !b1 := by cases b1 <;> cases b2 <;> simp_all
            clear hbb
            go_region_held3 (fun w' => w'.cell? ⟨P, 0, none⟩ = some (.int .i64 p1) ∧ w'.cell? ⟨P, 1, none⟩ = some (.int .i64 p2) ∧ w'.cell? ⟨B, 0, none⟩ = some (.int .i64 q1) ∧ w'.cell? ⟨B, 1, none⟩ = some (.int .i64 q2) ∧ Below W1.heap.size W1 w')
              (first | exact HS0.out | exact PairS.keep HP1.out HM0.out (by assumption) hbw)
              (first
                | (go_at_call 114; (with_reducible refine (K1.out _).mono ?_); rintro e w2 ⟨rfl, hbw⟩)
                | (go_at_call 114; (with_reducible refine (K2.out _).mono ?_); rintro e w2 ⟨rfl, hbw⟩))
            have hS : PairS W1 P B p1 p2 q1 q2 w2 := by assumption
            have HSS := Lib.hid hS
            clear hS
            have HT : Hid (tanB l = true) := tanB_true (by rw [HN.out]; exact hlt) hji (by rw [HC.out]; simp)
            go_wp2_with fail
            go_ret
            refine ⟨ret_bool HT.out.symm, ?_⟩
            have h1 := HBI1.out.trans (HSS.out.2.2.2.2.mono HBI1.out.size)
            exact HBA.out.trans (h1.mono HBA.out.size)
        · obtain rfl : j = i := by omega
          go_wp2_with fail
          go_roundw
          case rel => exact ⟨j + 1, by omega, by rw [Int.natCast_add]; rfl, fun a b ha hb => by
            by_cases e : a = j
            · subst e; exact HIN.out b hb
            · exact HALL.out a b (by omega) hb, HBA.out.trans (HBI.out.mono HBA.out.size)⟩
          case measure => simp [intOf]; omega
    · obtain rfl : i = n := by omega
      have HF : Hid (tanB l = false) := tanB_false.2 fun a b ha hb => HALL.out a b (by rw [HN.out] at ha; exact ha) hb
      go_wp2_with fail
      go_ret
      exact ⟨ret_bool HF.out.symm, HB.out⟩

end Go.Proofs.YtbbpockkafbfmaaDoor.Lw

namespace Go.Proofs.YtbbpockkafbfmaaDoor.Lw
open Go.RowKit

set_option maxHeartbeats 1000000 in
theorem tangled_nil (w : World) : Calls Tryd.prog 92 #[.slice none 0 0] w fun e w' => e = .returned (.bool false) ∧ Below w.heap.size w w' := by
  go_enter Tryd.func92, Tryd.ntmps92
  go_wp2_with fail
  go_loopw [9] (fun i wr => i = .int .i64 0 ∧ wr = w) (fun _ _ => 0)
  case atStart => exact ⟨rfl, rfl⟩
  case round =>
    obtain ⟨rfl, rfl⟩ := hrel
    go_wp2_with fail
    go_ret
    exact ⟨rfl, Below.refl _ _⟩

theorem OwnA.al {w : World} {B g n c : Nat} {l : List (Int × Int)} (h : OwnA w B (.slice (some ⟨g, 0, none⟩) n c) l) : AL w g l := by
  refine ⟨(h.lt g rfl).2, fun k p hp => ?_⟩
  obtain ⟨h1, h2⟩ := arcFlat_at hp
  have c1 := h.cells (g := g) rfl _ _ h1
  have c2 := h.cells (g := g) rfl _ _ h2
  rw [Go.WideShapes.add_plain] at c1 c2
  rw [Nat.zero_add] at c1 c2
  rw [Nat.mul_comm k 2]
  exact ⟨c1, c2⟩
theorem tangled_own {w : World} {B : Nat} {v : Value} {l : List (Int × Int)} (h : OwnA w B v l) (hbig : l.length ≤ 1000) :
    Calls Tryd.prog 92 #[v] w fun e w' => e = .returned (.bool (tanB l)) ∧ Below w.heap.size w w' := by
  have h' := h
  rcases h.2 with ⟨hv, h0⟩ | ⟨g, cap, cur, hv, hg, hh, hc, _⟩
  · have hl : l = [] := List.eq_nil_of_length_eq_zero h0
    subst hv; subst hl
    exact tangled_nil w
  · subst hv
    exact tangled_calls g l.length cap l w h'.al rfl hbig hc

set_option maxHeartbeats 1000000 in
theorem drawn_calls (A : Option Addr) (n cap : Nat) (L : List Int) (w : World) (h : SL w A n L) (hn : n ≤ 400) (he : n % 2 = 0) (hr : ∀ x, x ∈ L → 0 ≤ x ∧ x ≤ 10000000) :
    Calls Tryd.prog 58 #[.slice A n cap] w fun e w' => e = .returned (.bool (!tanB (arcsL L 0 (n / 2)) && !tanB (arcsL L 1 (n / 2)))) ∧ Below w.heap.size w w' := by
  have K0 := Lib.hid (fun W (hb : Below w.heap.size w W) => arcs_calls 0 (.inl rfl) A n cap L W (h.below hb) hn he hr)
  have K1 := Lib.hid (fun W (hb : Below w.heap.size w W) => arcs_calls 1 (.inr rfl) A n cap L W (h.below hb) hn he hr)
  have L0 := Lib.hid (arcsL_length L 0 (n / 2))
  have L1 := Lib.hid (arcsL_length L 1 (n / 2))
  have HN := Lib.hid hn
  clear hr he hn h
  generalize arcsL L 0 (n / 2) = l0 at K0 L0 ⊢
  generalize arcsL L 1 (n / 2) = l1 at K1 L1 ⊢
  obtain ⟨t0, ht0⟩ : ∃ t, tanB l0 = t := ⟨_, rfl⟩
  obtain ⟨t1, ht1⟩ : ∃ t, tanB l1 = t := ⟨_, rfl⟩
  rw [ht0, ht1]
  have T0 := Lib.hid ht0
  have T1 := Lib.hid ht1
  clear ht0 ht1
  go_enter Tryd.func58, Tryd.ntmps58
  go_wp2_with fail
  refine (K0.out w (Below.refl _ _)).mono ?_
  rintro e w1 ⟨v1, rfl, hown, hb1⟩
  have HT := Lib.hid (tangled_own hown (by have := L0.out; have := HN.out; omega))
  have HB1 := Lib.hid hb1
  clear hown hb1
  rw [T0.out] at HT
  go_wp2_with fail
  refine HT.out.mono ?_
  rintro e w2 ⟨rfl, hb2⟩
  have HB2 := Lib.hid (HB1.out.trans (hb2.mono HB1.out.size))
  clear hb2
  cases t0
  · go_wp2_with fail
    refine (K1.out w2 HB2.out).mono ?_
    rintro e w3 ⟨v3, rfl, hown, hb3⟩
    have HT := Lib.hid (tangled_own hown (by have := L1.out; have := HN.out; omega))
    have HB3 := Lib.hid (HB2.out.trans (hb3.mono HB2.out.size))
    clear hown hb3
    rw [T1.out] at HT
    go_wp2_with fail
    refine HT.out.mono ?_
    rintro e w4 ⟨rfl, hb4⟩
    have HB4 := Lib.hid (HB3.out.trans (hb4.mono HB3.out.size))
    clear hb4
    go_wp2_with fail
    go_ret
    exact ⟨ret_bool (by simp), HB4.out⟩
  · go_wp2_with fail
    go_ret
    exact ⟨rfl, HB2.out⟩

/-- The error and the ranks that line.Ranks answers. -/
def rkE (xs : List Int) (n : Nat) : Int := if errB 40 xs = 0 then (if reducedB xs = true then (if (ranksM xs n).isSome = true then 0 else 8) else 2) else errB 40 xs
def rkR (xs : List Int) (n : Nat) : List Int := (ranksM xs n).getD []

theorem posL_rng {xs ys : List Int} (hx : ∀ x, x ∈ xs → 0 ≤ x ∧ x ≤ 40) (hy : ∀ y, y ∈ ys → 0 ≤ y ∧ y ≤ 1000000) : ∀ x, x ∈ posL xs ys → 0 ≤ x ∧ x ≤ 10000000 := by
  intro x hm
  unfold posL at hm
  obtain ⟨i, hi, rfl⟩ := List.mem_map.1 hm
  rw [List.mem_range] at hi
  have h1 : 0 ≤ xs.getD i 0 ∧ xs.getD i 0 ≤ 40 := by
    rw [List.getD_eq_getElem?_getD, List.getElem?_eq_getElem hi]
    exact hx _ (List.getElem_mem _)
  have h2 : 0 ≤ ys.getD i 0 ∧ ys.getD i 0 ≤ 1000000 := by
    rw [List.getD_eq_getElem?_getD]
    cases e : ys[i]? with
    | none => simp
    | some y => exact hy y (List.mem_of_getElem? e)
  omega

theorem errB_split {xs : List Int} : errB 40 xs = 0 ∨ errB 40 xs = 2 ∨ errB 40 xs = 7 := by
  unfold errB
  split
  · exact .inr (.inr rfl)
  · split
    · exact .inl rfl
    · exact .inr (.inl rfl)

set_option maxHeartbeats 2000000 in
theorem ranks_calls (A : Option Addr) (n cap : Nat) (xs : List Int) (w : World) (h : SL w A n xs) (hn : n ≤ maxLen) :
    Calls Tryd.prog 26 #[.slice A n cap] w (ErrPost w (rkE xs n) (rkR xs n)) := by
  have HC := Lib.hid (check_calls 40 A n cap xs w h hn)
  have HR := Lib.hid (reduced_calls A n cap xs w h hn)
  by_cases he : errB 40 xs = 0
  · obtain ⟨hv, n400, n2, _⟩ := errB_ok h.1 he
    have HE := Lib.hid he
    cases hr : reducedB xs with
    | false =>
      have HV := Lib.hid hr
      have HK : Hid (rkE xs n = 2) := by unfold Hid rkE; rw [if_pos he, hr]; rfl
      clear he hr hv n400 n2
      go_enter Tryd.func26, Tryd.ntmps26
      go_wp2_with (first
        | (go_at_call 55; refine HC.out.mono ?_; rw [HE.out]; rintro e w' ⟨rfl, rfl⟩)
        | (go_at_call 56; refine HR.out.mono ?_; rw [HV.out]; rintro e w' ⟨rfl, rfl⟩))
      go_ret2
      rw [HK.out]
      exact ErrPost.err (by decide) (Below.refl _ _)
    | true =>
      have HV := Lib.hid hr
      have HVR := Lib.hid hv
      have HO := Lib.hid (onlyRanks_calls A n cap xs w h n400 (fun x hx => validB_range hv hx))
      have HL := Lib.hid h.1
      have HN4 := Lib.hid n400
      have HN2 := Lib.hid n2
      cases ho : outerM xs n with
      | none =>
        have HN := Lib.hid ho
        have HK : Hid (rkE xs n = 8) := by unfold Hid rkE ranksM; rw [if_pos he, if_pos hr, ho]; rfl
        clear he hr hv ho n400 n2
        go_enter Tryd.func26, Tryd.ntmps26
        go_wp2_with (first
          | (go_at_call 55; refine HC.out.mono ?_; rw [HE.out]; rintro e w' ⟨rfl, rfl⟩)
          | (go_at_call 56; refine HR.out.mono ?_; rw [HV.out]; rintro e w' ⟨rfl, rfl⟩)
          | (go_at_call 57; refine HO.out.mono ?_; rintro e w1 ⟨A1, c1, r, rfl, hown, _, hc, hb⟩; rw [HN.out]))
        go_ret2
        rw [HK.out]
        exact ErrPost.err (by decide) hb
      | some R =>
        have HN := Lib.hid ho
        have HBD : Hid (∀ y, y ∈ R → 0 ≤ y ∧ y ≤ 1000000) := fun y hy => by
          have := (outerM_bd HL.out n R HN4.out ho).2 y hy
          have := HN4.out
          omega
        have HM : Hid (ranksM xs n = if tanB (arcsL (posL xs R) 0 (n / 2)) = false ∧ tanB (arcsL (posL xs R) 1 (n / 2)) = false then some R else none) := by
          unfold Hid ranksM
          rw [ho]
        have HKE : Hid (rkE xs n = if (ranksM xs n).isSome = true then 0 else 8) := by unfold Hid rkE; rw [if_pos he, if_pos hr]
        have HPR := Lib.hid (posL_rng (fun x hx => validB_range hv hx) HBD.out)
        clear he hr hv ho n400 n2
        go_enter Tryd.func26, Tryd.ntmps26
        go_wp2_with (first
          | (go_at_call 55; refine HC.out.mono ?_; rw [HE.out]; rintro e w' ⟨rfl, rfl⟩)
          | (go_at_call 56; refine HR.out.mono ?_; rw [HV.out]; rintro e w' ⟨rfl, rfl⟩)
          | (go_at_call 57; refine HO.out.mono ?_; rintro e w1 ⟨A1, c1, r, rfl, hown, hrr, hc, hb⟩; obtain rfl := hrr _ HN.out; rw [HN.out]))
        have HP := Lib.hid (positions_calls A A1 n cap c1 xs r w1 (h.below hb) hown.sl (by have := HN4.out; omega) (fun u hu => validB_range HVR.out hu) HBD.out)
        have HOWN := Lib.hid hown
        have HB := Lib.hid hb
        clear hown hrr hb
        refine HP.out.mono ?_
        rintro e w2 ⟨A2, c2, rfl, hown2, _, hb2⟩
        have HB2 := Lib.hid (HB.out.trans (hb2.mono HB.out.size))
        have HD := Lib.hid (drawn_calls A2 n c2 (posL xs r) w2 hown2.sl HN4.out HN2.out HPR.out)
        have HOWN2 := Lib.hid (HOWN.out.below hb2)
        clear hown2 hb2
        generalize tanB (arcsL (posL xs r) 0 (n / 2)) = t0 at HD HM
        generalize tanB (arcsL (posL xs r) 1 (n / 2)) = t1 at HD HM
        obtain ⟨d, hd⟩ : ∃ d, (!t0 && !t1) = d := ⟨_, rfl⟩
        rw [hd] at HD
        have HDD := Lib.hid hd
        clear hd
        go_wp2_with fail
        refine HD.out.mono ?_
        rintro e w3 ⟨rfl, hb3⟩
        have HB3 := Lib.hid (HB2.out.trans (hb3.mono HB2.out.size))
        have HOWN3 := Lib.hid (HOWN2.out.below hb3)
        clear hb3
        cases d
        · have HK : Hid (rkE xs n = 8) := by
            unfold Hid
            rw [HKE.out, HM.out, if_neg (by have := HDD.out; cases t0 <;> cases t1 <;> simp_all)]
            try rfl
          go_wp2_with fail
          go_ret2
          rw [HK.out]
          exact ErrPost.err (by decide) HB3.out
        · have HT : Hid (ranksM xs n = some r) := by
            unfold Hid
            rw [HM.out, if_pos (by have := HDD.out; cases t0 <;> cases t1 <;> simp_all)]
          have HK : Hid (rkE xs n = 0) := by
            unfold Hid
            rw [HKE.out, HT.out]
            rfl
          go_wp2_with fail
          go_ret2
          have e : rkR xs n = r := by unfold rkR; rw [HT.out]; rfl
          rw [e]
          exact ErrPost.ok HK.out HOWN3.out HB3.out
  · have HK : Hid (rkE xs n = errB 40 xs) := by unfold Hid rkE; rw [if_neg he]
    rcases errB_split (xs := xs) with q | q | q
    · exact absurd q he
    all_goals
      have HE := Lib.hid q
      rw [q] at HK
      clear he q
      go_enter Tryd.func26, Tryd.ntmps26
      go_wp2_with (go_at_call 55; refine HC.out.mono ?_; rw [HE.out]; rintro e w' ⟨rfl, rfl⟩)
      go_ret2
      rw [HK.out]
      exact ErrPost.err (by decide) (Below.refl _ _)

end Go.Proofs.YtbbpockkafbfmaaDoor.Lw
