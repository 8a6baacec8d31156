/-
  The walks of line.Winding and line.Inside.
-/
import Derived.Test.YtenomnkdfiojbaaDoorForget
namespace Go.Proofs.YtenomnkdfiojbaaDoor
open Go.RowKit

/-- The winding number around the finger with index f, of the first j letters. -/
def wsum (xs : List Int) (f : Nat) : Nat → Int
  | 0 => 0
  | j + 1 => wsum xs f j + if xs.getD j 0 ≤ (f : Int) then 1 - 2 * ((j : Int) % 2) else 0
def windL (k : Nat) (xs : List Int) : List Int := (List.range k).map fun f => wsum xs f xs.length

theorem wsum_bd (xs : List Int) (f j : Nat) : -(j : Int) ≤ wsum xs f j ∧ wsum xs f j ≤ j := by
  induction j with
  | zero => simp [wsum]
  | succ j ih =>
    simp only [wsum]
    split <;> omega

/-- What the numbers are in the middle of a round. -/
def stepL (base : Nat → Int) (k : Nat) (g : Nat) (t : Int) (m : Nat) : List Int := (List.range k).map fun f => base f + if g ≤ f ∧ f < m then t else 0
theorem stepL_at (base : Nat → Int) (k g m : Nat) (t : Int) (hm : m < k) : (stepL base k g t m)[m]? = some (base m) := by
  simp [stepL, hm]
theorem stepL_set (base : Nat → Int) (k g m : Nat) (t : Int) (hg : g ≤ m) : (stepL base k g t m).set m (base m + t) = stepL base k g t (m + 1) := by
  apply List.ext_getElem
  · simp [stepL]
  · intro i h1 h2
    rw [List.getElem_set]
    by_cases e : m = i
    · subst e; simp [stepL, hg]
    · rw [if_neg e]
      simp only [stepL, List.getElem_map, List.getElem_range]
      congr 1
      by_cases q : g ≤ i ∧ i < m
      · rw [if_pos q, if_pos (by omega)]
      · rw [if_neg q, if_neg (by omega)]
theorem stepL_start (xs : List Int) (k g j : Nat) (t : Int) : (List.range k).map (fun f => wsum xs f j) = stepL (fun f => wsum xs f j) k g t g := by
  apply List.ext_getElem
  · simp [stepL]
  · intro i h1 h2
    simp only [stepL, List.getElem_map, List.getElem_range]
    rw [if_neg (by omega)]; omega
theorem stepL_end (xs : List Int) (k g j : Nat) (hx : xs[j]? = some (g : Int)) : stepL (fun f => wsum xs f j) k g (1 - 2 * ((j : Int) % 2)) k = (List.range k).map (fun f => wsum xs f (j + 1)) := by
  apply List.ext_getElem
  · simp [stepL]
  · intro i h1 h2
    have hi : i < k := by simpa [stepL] using h1
    simp only [stepL, List.getElem_map, List.getElem_range, wsum, List.getD_eq_getElem?_getD, hx, Option.getD_some]
    congr 1
    by_cases q : g ≤ i
    · rw [if_pos ⟨q, hi⟩, if_pos (by omega)]
    · rw [if_neg (by omega), if_neg (by omega)]

def WindRel (xs : List Int) (n k : Nat) (g : Nat) (w : World) (i : Value) (wr : World) : Prop :=
  ∃ j : Nat, j ≤ n ∧ i = .int .i64 j ∧ OwnI wr w.heap.size (.slice (some ⟨g, 0, none⟩) k k) ((List.range k).map (fun f => wsum xs f j)) ∧ Below w.heap.size w wr
def StepRel (xs : List Int) (j k : Nat) (g0 : Nat) (t : Int) (g : Nat) (w : World) (i : Value) (wr : World) : Prop :=
  ∃ m : Nat, g0 ≤ m ∧ m ≤ k ∧ i = .int .i64 m ∧ OwnI wr w.heap.size (.slice (some ⟨g, 0, none⟩) k k) (stepL (fun f => wsum xs f j) k g0 t m) ∧ Below w.heap.size w wr

set_option maxHeartbeats 1000000 in
set_option maxRecDepth 100000 in
theorem winding_calls (k : Int) (A : Option Addr) (n cap : Nat) (xs : List Int) (w : World) (h : SL w A n xs) (hn : n ≤ maxLen) :
    Calls Tryd.prog 34 #[.int .i64 k, .slice A n cap] w (ErrPost w (errB k xs) (windL k.toNat xs)) := by
  have HL := Lib.hid h.1
  have HC := Lib.hid (check_calls k A n cap xs w h hn)
  by_cases he : errB k xs = 0
  · have h4 := errB_ok h.1 he
    have HE := Lib.hid he
    have HV := Lib.hid h4.1
    have n400 := h4.2.1
    have k0 := h4.2.2.2.1
    have k40 := h4.2.2.2.2
    clear he h4
    obtain ⟨kn, rfl⟩ := Int.eq_ofNat_of_zero_le k0
    rw [Int.toNat_natCast]
    go_enter Tryd.func34, Tryd.ntmps34
    go_wp2_with (first
      | (go_at_call 44; refine HC.out.mono ?_; rw [HE.out]; rintro e w' ⟨rfl, rfl⟩)
      | (at_make; refine wpList_make_ints rfl _ _ rfl kn rfl rfl (by omega) ?_; intro w1 hown1 hb1))
    go_loopw [22] (fun i wr => WindRel xs n kn w.heap.size w i wr) (fun i _ => n - (intOf i).toNat)
    case atStart =>
      refine ⟨0, Nat.zero_le _, rfl, ?_, hb1⟩
      have e : (List.range kn).map (fun f => wsum xs f 0) = List.replicate kn 0 := by
        apply List.ext_getElem
        · simp
        · intro i q1 q2; simp [wsum]
      rw [e]; exact hown1
    case round =>
      obtain ⟨j, hj, rfl, hownr, hb⟩ := hrel
      obtain ⟨wo, hwo⟩ : ∃ wo : World, wo = wr := ⟨_, rfl⟩
      obtain rfl := hwo
      have HOWN := Lib.hid hownr
      clear hown1 hownr
      by_cases hlt : j < n
      · obtain ⟨b, off, x, rfl, hbb, hx, hc⟩ := (h.below hb).at_ hlt
        have hr := validB_range HV.out (List.mem_of_getElem? hx)
        obtain ⟨g0, rfl⟩ := Int.eq_ofNat_of_zero_le hr.1
        have hgk : g0 ≤ kn := by omega
        have HX := Lib.hid hx
        clear hx hr
        go_wp2_with fail
        go_loopw [11] (fun i wr => StepRel xs j kn g0 (1 - 2 * ((j : Int) % 2)) w.heap.size w i wr) (fun i _ => kn - (intOf i).toNat)
        case atStart => exact ⟨g0, Nat.le_refl _, hgk, rfl, by rw [← stepL_start]; exact HOWN.out, hb⟩
        case round =>
          obtain ⟨m, hgm, hmk, rfl, hown, hb2⟩ := hrel
          have HOW := Lib.hid hown
          by_cases hlt2 : m < kn
          · obtain ⟨y, hy, hyc, hyf, hyg⟩ := hown.cell (k := m) hlt2
            rw [stepL_at _ _ _ _ _ hlt2] at hy
            have hbd := wsum_bd xs m j
            have hye : wsum xs m j = y := by injection hy
            rw [hye] at hbd
            obtain ⟨hb1', hb2'⟩ := hbd
            have HYE := Lib.hid hye
            have hj0 : 0 ≤ (j : Int) % 2 := by omega
            have hj1 : (j : Int) % 2 ≤ 1 := by omega
            clear hown hy hye hc
            have HREL : Hid (StepRel xs j kn g0 (1 - 2 * ((j : Int) % 2)) w.heap.size w (.int .i64 ((m : Int) + 1)) (wr.setCell ⟨w.heap.size, m, none⟩ (.int .i64 (y + (1 - 2 * ((j : Int) % 2)))))) :=
              ⟨m + 1, by omega, by omega, by rw [Int.natCast_add]; rfl, by rw [← stepL_set _ _ _ _ _ hgm, HYE.out]; exact HOW.out.set hlt2 _, hb2.setCell (p := ⟨w.heap.size, m, none⟩) hyg _⟩
            go_wp2_with fail
            go_roundw
            case rel => exact HREL.out
            case measure => simp [intOf]; omega
          · obtain rfl : m = kn := by omega
            have hend := HOW.out
            rw [stepL_end xs m g0 j HX.out] at hend
            have HREL : Hid (WindRel xs n m w.heap.size w (.int .i64 ((j : Int) + 1)) wr) := ⟨j + 1, by omega, by rw [Int.natCast_add]; rfl, hend, hb2⟩
            clear hend hown
            go_wp2_with fail
            go_roundw
            case rel => exact HREL.out
            case measure => simp [intOf]; omega
      · obtain rfl : j = n := by omega
        go_wp2_with fail
        go_ret2
        refine ErrPost.ok HE.out ?_ hb
        unfold windL
        rw [HL.out]
        exact HOWN.out
  · have hne : (errB k xs != 0) = true := by rw [bne_iff_ne]; exact he
    have HN := Lib.hid he
    clear he
    go_enter Tryd.func34, Tryd.ntmps34
    go_wp2_with (go_at_call 44; refine HC.out.mono ?_; rintro e w' ⟨rfl, rfl⟩)
    go_ret2
    exact ErrPost.err HN.out (Below.refl _ _)

/-- Which of the first j numbers are odd. -/
def oddTo (l : List Int) : Nat → List Int
  | 0 => []
  | j + 1 => if (l.getD j 0).tmod 2 != 0 then oddTo l j ++ [(j : Int) + 1] else oddTo l j
def insideL (k : Nat) (xs : List Int) : List Int := oddTo (windL k xs) k
theorem oddTo_length (l : List Int) (j : Nat) : (oddTo l j).length ≤ j := by
  induction j with
  | zero => simp [oddTo]
  | succ j ih =>
    simp only [oddTo]
    split
    · rw [List.length_append, List.length_singleton]; omega
    · omega
theorem windL_length (k : Nat) (xs : List Int) : (windL k xs).length = k := by simp [windL]

def OddRel (l : List Int) (k : Nat) (w : World) (v i : Value) (wr : World) : Prop :=
  ∃ j : Nat, j ≤ k ∧ i = .int .i64 j ∧ OwnI wr w.heap.size v (oddTo l j) ∧ Below w.heap.size w wr

set_option maxHeartbeats 1000000 in
set_option maxRecDepth 100000 in
theorem inside_calls (k : Int) (A : Option Addr) (n cap : Nat) (xs : List Int) (w : World) (h : SL w A n xs) (hn : n ≤ maxLen) :
    Calls Tryd.prog 35 #[.int .i64 k, .slice A n cap] w (ErrPost w (errB k xs) (insideL k.toNat xs)) := by
  have HW := Lib.hid (winding_calls k A n cap xs w h hn)
  by_cases he : errB k xs = 0
  · have h4 := errB_ok h.1 he
    have HE := Lib.hid he
    have k0 := h4.2.2.2.1
    have k40 := h4.2.2.2.2
    clear he h4
    obtain ⟨kn, rfl⟩ := Int.eq_ofNat_of_zero_le k0
    have HW2 := Lib.hid (HW.out.mono fun e w' h => ErrPost.get_ok HE.out (windL_length _ xs) h)
    rw [Int.toNat_natCast] at HW2 ⊢
    go_enter Tryd.func35, Tryd.ntmps35
    go_wp2_with (go_at_call 34; refine HW2.out.mono ?_; rintro e w1 ⟨A1, c1, rfl, hown1, hc1, hb1⟩)
    obtain ⟨l, hlE⟩ : ∃ l, windL kn xs = l := ⟨_, rfl⟩
    rw [hlE] at hown1
    have hsl := hown1.sl
    have HLE := Lib.hid hlE
    clear hlE hown1
    go_loopw [8, 22] (fun v i wr => OddRel l kn w1 v i wr) (fun _ i _ => kn - (intOf i).toNat)
    case atStart => exact ⟨0, Nat.zero_le _, rfl, World.ownsRow_nil _ _ _ _, Below.refl _ _⟩
    case round =>
      obtain ⟨j, hj, rfl, hown, hbb⟩ := hrel
      have HOWN := Lib.hid hown
      have hws1 := hbb.size
      have hol := oddTo_length l j
      clear hown
      by_cases hlt : j < kn
      · obtain ⟨b, off, x, rfl, _, hx, hc⟩ := (hsl.below hbb).at_ hlt
        have hxd : l.getD j 0 = x := by rw [List.getD_eq_getElem?_getD, hx]; rfl
        have HX := Lib.hid hxd
        clear hx hxd
        cases hq : x.tmod 2 != 0 with
        | true =>
          have hq2 : (x.tmod 2 != 0) = true := hq
          have HS : Hid (oddTo l (j + 1) = oddTo l j ++ [(j : Int) + 1]) := by unfold Hid; rw [oddTo, HX.out, if_pos hq]
          have HOL := Lib.hid hol
          clear hq hol
          go_wp2_with (at_builtin; refine wpList_append_ints rfl _ _ rfl w1.heap.size _ (oddTo l j) rfl (OwnI.below HOWN.out ((Below.refl _ _).alloc (Nat.le_refl _) _)) ⟨wr.heap.size, 0, none⟩ 1 1 [(j : Int) + 1] rfl ?c0 ?c1 ?c2 ?_)
          case c0 => exact SL.one wr _ _
          case c1 => have := HOL.out; omega
          case c2 => first | omega | (simp; omega)
          intro v' w' hown' hg _
          obtain ⟨A2, c2, rfl, _, _⟩ := hown'.form
          have HREL : Hid (OddRel l kn w1 (.slice A2 (oddTo l j ++ [(j : Int) + 1]).length c2) (.int .i64 ((j : Int) + 1)) w') :=
            ⟨j + 1, by omega, by rw [Int.natCast_add]; rfl, by rw [HS.out]; exact hown', grown_below (hbb.alloc hbb.size _) (HOWN.out.below ((Below.refl _ _).alloc (Nat.le_refl _) _)) hg⟩
          clear hown' hg hc
          go_wp2_with fail
          go_roundw
          case rel => exact HREL.out
          case measure => simp [intOf]; omega
        | false =>
          have hq2 : (x.tmod 2 != 0) = false := hq
          have HS : Hid (oddTo l (j + 1) = oddTo l j) := by unfold Hid; rw [oddTo, HX.out, if_neg (by rw [hq]; simp)]
          clear hq
          go_wp2_with fail
          go_roundw
          case rel => exact ⟨j + 1, by omega, by rw [Int.natCast_add]; rfl, by rw [HS.out]; exact HOWN.out, hbb⟩
          case measure => simp [intOf]; omega
      · obtain rfl : j = kn := by omega
        go_wp2_with fail
        go_ret2
        refine ErrPost.ok HE.out ?_ (hb1.trans (hbb.mono hb1.size))
        unfold insideL
        rw [HLE.out]
        exact HOWN.out.mono hb1.size
  · have hne : (errB k xs != 0) = true := by rw [bne_iff_ne]; exact he
    have HN := Lib.hid he
    have HW2 := Lib.hid (HW.out.mono fun e w' h => ErrPost.get_err HN.out h)
    clear he
    go_enter Tryd.func35, Tryd.ntmps35
    go_wp2_with (go_at_call 34; refine HW2.out.mono ?_; rintro e w1 ⟨A1, c1, rfl, hb1⟩)
    go_ret2
    exact ErrPost.err HN.out hb1

end Go.Proofs.YtenomnkdfiojbaaDoor
