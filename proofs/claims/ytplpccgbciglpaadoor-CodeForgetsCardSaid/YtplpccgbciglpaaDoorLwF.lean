/-
  Forget of the layer line, in a namespace of their own (Lw), beside the texts of the layer code.
-/
import Derived.Test.YtplpccgbciglpaaDoorLwA

namespace Go.Proofs.YtplpccgbciglpaaDoor.Lw
open Go.RowKit

def dropOne (f x : Int) : Int := if f ≤ x then x - 1 else x
/-- The word without a finger, not reduced. -/
def dropL (f : Int) (xs : List Int) : List Int := xs.map (dropOne f)
def mixL (f : Int) (xs : List Int) (j : Nat) : List Int := (xs.take j).map (dropOne f) ++ xs.drop j
theorem mixL_length (f : Int) (xs : List Int) (j : Nat) : (mixL f xs j).length = xs.length := by
  simp [mixL]; omega
theorem mixL_at {f : Int} {xs : List Int} {j : Nat} {x : Int} (hx : xs[j]? = some x) : (mixL f xs j)[j]? = some x := by
  have hj : j < xs.length := by
    rcases Nat.lt_or_ge j xs.length with q | q
    · exact q
    · rw [List.getElem?_eq_none q] at hx; cases hx
  unfold mixL
  rw [List.getElem?_append_right (by simp; omega)]
  simp only [List.length_map, List.length_take, List.getElem?_drop]
  rw [Nat.min_eq_left (by omega), Nat.sub_self, Nat.add_zero]
  exact hx
theorem mixL_set {f : Int} {xs : List Int} {j : Nat} {x : Int} (hx : xs[j]? = some x) : (mixL f xs j).set j (dropOne f x) = mixL f xs (j + 1) := by
  have hj : j < xs.length := by
    rcases Nat.lt_or_ge j xs.length with q | q
    · exact q
    · rw [List.getElem?_eq_none q] at hx; cases hx
  have hx' : xs[j] = x := by rw [List.getElem?_eq_getElem hj] at hx; injection hx
  unfold mixL
  rw [List.set_append_right _ _ (by simp; omega)]
  simp only [List.length_map, List.length_take]
  rw [Nat.min_eq_left (by omega), Nat.sub_self, List.drop_eq_getElem_cons hj, hx', List.set_cons_zero, List.take_add_one, hx]
  simp
theorem mixL_same {f : Int} {xs : List Int} {j : Nat} {x : Int} (hx : xs[j]? = some x) (hf : ¬ f ≤ x) : mixL f xs j = mixL f xs (j + 1) := by
  rw [← mixL_set hx]
  have : dropOne f x = x := by unfold dropOne; rw [if_neg hf]
  rw [this]
  have hm := mixL_at (f := f) hx
  apply List.ext_getElem?
  intro i
  rw [List.getElem?_set]
  by_cases e : j = i
  · subst e
    rw [if_pos rfl, hm]
    split
    · rfl
    · rename_i q
      rw [List.getElem?_eq_none (by omega)] at hm
      cases hm
  · rw [if_neg e]
theorem mixL_zero (f : Int) (xs : List Int) : mixL f xs 0 = xs := by simp [mixL]
theorem mixL_full {f : Int} {xs : List Int} {n : Nat} (hl : xs.length = n) : mixL f xs n = dropL f xs := by
  unfold mixL dropL
  rw [List.take_of_length_le (by omega), List.drop_of_length_le (by omega), List.append_nil]

def forgetErr (k : Int) (xs : List Int) (f : Int) : Int := if ¬ errB k xs = 0 then errB k xs else if f < 1 ∨ k < f then 2 else 0

theorem validB_drop {k f : Int} {xs : List Int} (h : validB k xs = true) (h1 : 1 ≤ f) : validB 40 (dropL f xs) = true := by
  unfold validB at h ⊢
  simp only [Bool.and_eq_true, decide_eq_true_eq, List.all_eq_true] at h ⊢
  obtain ⟨⟨⟨⟨a, b⟩, c⟩, d⟩, e⟩ := h
  unfold dropL
  simp only [List.length_map]
  refine ⟨⟨⟨⟨by omega, by omega⟩, c⟩, d⟩, fun x hx => ?_⟩
  obtain ⟨y, hy, rfl⟩ := List.mem_map.1 hx
  have := e y hy
  unfold dropOne
  split <;> omega
theorem errB_of_valid {k : Int} {xs : List Int} (h : validB k xs = true) : errB k xs = 0 := by
  have : xs.length ≤ 400 := by unfold validB at h; simp only [Bool.and_eq_true, decide_eq_true_eq] at h; exact h.1.1.2
  unfold errB
  rw [if_neg (by omega), if_pos h]
theorem validB_range {k : Int} {xs : List Int} (h : validB k xs = true) {x : Int} (hx : x ∈ xs) : 0 ≤ x ∧ x ≤ k := by
  unfold validB at h
  simp only [Bool.and_eq_true, decide_eq_true_eq, List.all_eq_true] at h
  exact h.2 x hx

def ForgetRel (f : Int) (xs : List Int) (n : Nat) (A : Option Addr) (c : Nat) (w : World) (i : Value) (wr : World) : Prop :=
  ∃ j : Nat, j ≤ n ∧ i = .int .i64 j ∧ OwnI wr w.heap.size (.slice A n c) (mixL f xs j) ∧ Below w.heap.size w wr

set_option maxHeartbeats 1000000 in
set_option maxRecDepth 100000 in
theorem forget_calls (k : Int) (A : Option Addr) (n cap : Nat) (xs : List Int) (f : Int) (w : World) (h : SL w A n xs) (hn : n ≤ maxLen) :
    Calls Tryd.prog 23 #[.int .i64 k, .slice A n cap, .int .i64 f] w (ErrPost w (forgetErr k xs f) (Ln.normal (dropL f xs))) := by
  have HL := Lib.hid h.1
  have HC := Lib.hid (check_calls k A n cap xs w h hn)
  by_cases he : errB k xs = 0
  · have h4 := errB_ok h.1 he
    have HE := Lib.hid he
    have HV := Lib.hid h4.1
    have n400 := h4.2.1
    have k0 := h4.2.2.2.1
    have k40 := h4.2.2.2.2
    clear he h4
    by_cases hf : 1 ≤ f ∧ f ≤ k
    · obtain ⟨f1, fk⟩ := hf
      have HFE : Hid (forgetErr k xs f = 0) := by unfold Hid forgetErr; rw [if_neg (by rw [HE.out]; simp), if_neg (by omega)]
      have HK := Lib.hid (clone_any A n cap xs w h (by omega))
      go_enter Tryd.func23, Tryd.ntmps23
      go_wp2_with (first
        | (go_at_call 52; refine HC.out.mono ?_; rw [HE.out]; rintro e w' ⟨rfl, rfl⟩)
        | (go_at_call 53; refine HK.out.mono ?_; rintro e w1 ⟨v, rfl, hown, hb1⟩; obtain ⟨A1, c1, rfl, hc1, hA1⟩ := hown.form))
      rw [HL.out] at hc1 hA1 ⊢
      rw [HL.out] at hown
      go_loopw [29] (fun i wr => ForgetRel f xs n A1 c1 w i wr) (fun i _ => n - (intOf i).toNat)
      case atStart => exact ⟨0, Nat.zero_le _, rfl, by rw [mixL_zero]; exact hown, hb1⟩
      case round =>
        obtain ⟨j, hj, rfl, hownr, hb⟩ := hrel
        have HOWN := Lib.hid hownr
        clear hown hownr
        by_cases hlt : j < n
        · obtain ⟨b, off, x, rfl, hbb, hx, hc⟩ := (h.below hb).at_ hlt
          have hr := validB_range HV.out (List.mem_of_getElem? hx)
          obtain ⟨x0, xk⟩ := hr
          obtain ⟨g, rfl, _, _⟩ := hA1 (by omega)
          obtain ⟨y, hy, hyc, hyf, hyg⟩ := HOWN.out.cell (k := j) hlt
          have HX := Lib.hid hx
          clear hx hy
          by_cases hfx : f ≤ x
          · have HREL : Hid (ForgetRel f xs n (some ⟨g, 0, none⟩) c1 w (.int .i64 ((j : Int) + 1)) (wr.setCell ⟨g, j, none⟩ (.int .i64 (x - 1)))) := by
              have e : dropOne f x = x - 1 := by unfold dropOne; rw [if_pos hfx]
              exact ⟨j + 1, by omega, by rw [Int.natCast_add]; rfl, by rw [← mixL_set HX.out, ← e]; exact HOWN.out.set hlt _, hb.setCell (p := ⟨g, j, none⟩) hyg _⟩
            go_wp2_with fail
            go_roundw
            case rel => exact HREL.out
            case measure => simp [intOf]; omega
          · have HREL : Hid (ForgetRel f xs n (some ⟨g, 0, none⟩) c1 w (.int .i64 ((j : Int) + 1)) wr) :=
              ⟨j + 1, by omega, by rw [Int.natCast_add]; rfl, by rw [← mixL_same HX.out hfx]; exact HOWN.out, hb⟩
            go_wp2_with fail
            go_roundw
            case rel => exact HREL.out
            case measure => simp [intOf]; omega
        · obtain rfl : j = n := by omega
          have hfull := HOWN.out
          rw [mixL_full HL.out] at hfull
          have HV2 := Lib.hid (errB_of_valid (validB_drop HV.out f1))
          have HN := Lib.hid (normal_calls A1 j c1 (dropL f xs) wr hfull.sl hn)
          clear hfull
          go_wp2_with (go_at_call 24; refine HN.out.mono ?_; rw [HV2.out]; rintro e w3 ⟨v3, rfl, hown3, hb3⟩)
          go_ret2
          exact ErrPost.ok HFE.out (OwnI.mono (by simpa using hown3) hb.size) (hb.trans (hb3.mono hb.size))
    · have HFE : Hid (forgetErr k xs f = 2) := by unfold Hid forgetErr; rw [if_neg (by rw [HE.out]; simp), if_pos (by omega)]
      by_cases hf1 : f < 1
      · go_enter Tryd.func23, Tryd.ntmps23
        go_wp2_with (go_at_call 52; refine HC.out.mono ?_; rw [HE.out]; rintro e w' ⟨rfl, rfl⟩)
        go_ret2
        rw [HFE.out]
        exact ErrPost.err (by decide) (Below.refl _ _)
      · have hkf : k < f := by omega
        go_enter Tryd.func23, Tryd.ntmps23
        go_wp2_with (go_at_call 52; refine HC.out.mono ?_; rw [HE.out]; rintro e w' ⟨rfl, rfl⟩)
        go_ret2
        rw [HFE.out]
        exact ErrPost.err (by decide) (Below.refl _ _)
  · have hne : (errB k xs != 0) = true := by rw [bne_iff_ne]; exact he
    have HN := Lib.hid he
    have HFE : Hid (forgetErr k xs f = errB k xs) := by unfold Hid forgetErr; rw [if_pos he]
    clear he
    go_enter Tryd.func23, Tryd.ntmps23
    go_wp2_with (go_at_call 52; refine HC.out.mono ?_; rintro e w' ⟨rfl, rfl⟩)
    go_ret2
    rw [HFE.out]
    exact ErrPost.err HN.out (Below.refl _ _)

end Go.Proofs.YtplpccgbciglpaaDoor.Lw
