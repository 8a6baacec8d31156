/-
  The walks of line.drawn and line.Ranks for any list.
-/
import Derived.Test.YtenomnkdfiojbaaDoorTang
namespace Go.Proofs.YtenomnkdfiojbaaDoor
open Go.RowKit

set_option maxHeartbeats 1000000 in
theorem tangled_nil (w : World) : Calls Tryd.prog 74 #[.slice none 0 0] w fun e w' => e = .returned (.bool false) ∧ Below w.heap.size w w' := by
  go_enter Tryd.func74, Tryd.ntmps74
  go_wp2_with fail
  go_loopw [9] (fun i wr => i = .int .i64 0 ∧ wr = w) (fun _ _ => 0)
  case atStart => exact ⟨rfl, rfl⟩
  case round =>
    obtain ⟨rfl, rfl⟩ := hrel
    go_wp2_with fail
    go_ret
    exact ⟨rfl, Below.refl _ _⟩

theorem OwnA.al {w : World} {B g n c : Nat} {l : List (Int × Int)} (h : OwnA w B (.slice (some ⟨g, 0, none⟩) n c) l) : AL w g l := by
  refine ⟨(h.lt g rfl).2, fun k p hp => ?_⟩
  obtain ⟨h1, h2⟩ := arcFlat_at hp
  have c1 := h.cells (g := g) rfl _ _ h1
  have c2 := h.cells (g := g) rfl _ _ h2
  rw [Go.WideShapes.add_plain] at c1 c2
  rw [Nat.zero_add] at c1 c2
  rw [Nat.mul_comm k 2]
  exact ⟨c1, c2⟩
theorem tangled_own {w : World} {B : Nat} {v : Value} {l : List (Int × Int)} (h : OwnA w B v l) (hbig : l.length ≤ 1000) :
    Calls Tryd.prog 74 #[v] w fun e w' => e = .returned (.bool (tanB l)) ∧ Below w.heap.size w w' := by
  have h' := h
  rcases h.2 with ⟨hv, h0⟩ | ⟨g, cap, cur, hv, hg, hh, hc, _⟩
  · have hl : l = [] := List.eq_nil_of_length_eq_zero h0
    subst hv; subst hl
    exact tangled_nil w
  · subst hv
    exact tangled_calls g l.length cap l w h'.al rfl hbig hc

set_option maxHeartbeats 1000000 in
theorem drawn_calls (A : Option Addr) (n cap : Nat) (L : List Int) (w : World) (h : SL w A n L) (hn : n ≤ 400) (he : n % 2 = 0) (hr : ∀ x, x ∈ L → 0 ≤ x ∧ x ≤ 10000000) :
    Calls Tryd.prog 57 #[.slice A n cap] w fun e w' => e = .returned (.bool (!tanB (arcsL L 0 (n / 2)) && !tanB (arcsL L 1 (n / 2)))) ∧ Below w.heap.size w w' := by
  have K0 := Lib.hid (fun W (hb : Below w.heap.size w W) => arcs_calls 0 (.inl rfl) A n cap L W (h.below hb) hn he hr)
  have K1 := Lib.hid (fun W (hb : Below w.heap.size w W) => arcs_calls 1 (.inr rfl) A n cap L W (h.below hb) hn he hr)
  have L0 := Lib.hid (arcsL_length L 0 (n / 2))
  have L1 := Lib.hid (arcsL_length L 1 (n / 2))
  have HN := Lib.hid hn
  clear hr he hn h
  generalize arcsL L 0 (n / 2) = l0 at K0 L0 ⊢
  generalize arcsL L 1 (n / 2) = l1 at K1 L1 ⊢
  obtain ⟨t0, ht0⟩ : ∃ t, tanB l0 = t := ⟨_, rfl⟩
  obtain ⟨t1, ht1⟩ : ∃ t, tanB l1 = t := ⟨_, rfl⟩
  rw [ht0, ht1]
  have T0 := Lib.hid ht0
  have T1 := Lib.hid ht1
  clear ht0 ht1
  go_enter Tryd.func57, Tryd.ntmps57
  go_wp2_with fail
  refine (K0.out w (Below.refl _ _)).mono ?_
  rintro e w1 ⟨v1, rfl, hown, hb1⟩
  have HT := Lib.hid (tangled_own hown (by have := L0.out; have := HN.out; omega))
  have HB1 := Lib.hid hb1
  clear hown hb1
  rw [T0.out] at HT
  go_wp2_with fail
  refine HT.out.mono ?_
  rintro e w2 ⟨rfl, hb2⟩
  have HB2 := Lib.hid (HB1.out.trans (hb2.mono HB1.out.size))
  clear hb2
  cases t0
  · go_wp2_with fail
    refine (K1.out w2 HB2.out).mono ?_
    rintro e w3 ⟨v3, rfl, hown, hb3⟩
    have HT := Lib.hid (tangled_own hown (by have := L1.out; have := HN.out; omega))
    have HB3 := Lib.hid (HB2.out.trans (hb3.mono HB2.out.size))
    clear hown hb3
    rw [T1.out] at HT
    go_wp2_with fail
    refine HT.out.mono ?_
    rintro e w4 ⟨rfl, hb4⟩
    have HB4 := Lib.hid (HB3.out.trans (hb4.mono HB3.out.size))
    clear hb4
    go_wp2_with fail
    go_ret
    exact ⟨ret_bool (by simp), HB4.out⟩
  · go_wp2_with fail
    go_ret
    exact ⟨rfl, HB2.out⟩

/-- The error and the ranks that line.Ranks answers. -/
def rkE (xs : List Int) (n : Nat) : Int := if errB 40 xs = 0 then (if reducedB xs = true then (if (ranksM xs n).isSome = true then 0 else 8) else 2) else errB 40 xs
def rkR (xs : List Int) (n : Nat) : List Int := (ranksM xs n).getD []

theorem posL_rng {xs ys : List Int} (hx : ∀ x, x ∈ xs → 0 ≤ x ∧ x ≤ 40) (hy : ∀ y, y ∈ ys → 0 ≤ y ∧ y ≤ 1000000) : ∀ x, x ∈ posL xs ys → 0 ≤ x ∧ x ≤ 10000000 := by
  intro x hm
  unfold posL at hm
  obtain ⟨i, hi, rfl⟩ := List.mem_map.1 hm
  rw [List.mem_range] at hi
  have h1 : 0 ≤ xs.getD i 0 ∧ xs.getD i 0 ≤ 40 := by
    rw [List.getD_eq_getElem?_getD, List.getElem?_eq_getElem hi]
    exact hx _ (List.getElem_mem _)
  have h2 : 0 ≤ ys.getD i 0 ∧ ys.getD i 0 ≤ 1000000 := by
    rw [List.getD_eq_getElem?_getD]
    cases e : ys[i]? with
    | none => simp
    | some y => exact hy y (List.mem_of_getElem? e)
  omega

theorem errB_split {xs : List Int} : errB 40 xs = 0 ∨ errB 40 xs = 2 ∨ errB 40 xs = 7 := by
  unfold errB
  split
  · exact .inr (.inr rfl)
  · split
    · exact .inl rfl
    · exact .inr (.inl rfl)

set_option maxHeartbeats 2000000 in
theorem ranks_calls (A : Option Addr) (n cap : Nat) (xs : List Int) (w : World) (h : SL w A n xs) (hn : n ≤ maxLen) :
    Calls Tryd.prog 38 #[.slice A n cap] w (ErrPost w (rkE xs n) (rkR xs n)) := by
  have HC := Lib.hid (check_calls 40 A n cap xs w h hn)
  have HR := Lib.hid (reduced_calls A n cap xs w h hn)
  by_cases he : errB 40 xs = 0
  · obtain ⟨hv, n400, n2, _⟩ := errB_ok h.1 he
    have HE := Lib.hid he
    cases hr : reducedB xs with
    | false =>
      have HV := Lib.hid hr
      have HK : Hid (rkE xs n = 2) := by unfold Hid rkE; rw [if_pos he, hr]; rfl
      clear he hr hv n400 n2
      go_enter Tryd.func38, Tryd.ntmps38
      go_wp2_with (first
        | (go_at_call 44; refine HC.out.mono ?_; rw [HE.out]; rintro e w' ⟨rfl, rfl⟩)
        | (go_at_call 22; refine HR.out.mono ?_; rw [HV.out]; rintro e w' ⟨rfl, rfl⟩))
      go_ret2
      rw [HK.out]
      exact ErrPost.err (by decide) (Below.refl _ _)
    | true =>
      have HV := Lib.hid hr
      have HVR := Lib.hid hv
      have HO := Lib.hid (onlyRanks_calls A n cap xs w h n400 (fun x hx => validB_range hv hx))
      have HL := Lib.hid h.1
      have HN4 := Lib.hid n400
      have HN2 := Lib.hid n2
      cases ho : outerM xs n with
      | none =>
        have HN := Lib.hid ho
        have HK : Hid (rkE xs n = 8) := by unfold Hid rkE ranksM; rw [if_pos he, if_pos hr, ho]; rfl
        clear he hr hv ho n400 n2
        go_enter Tryd.func38, Tryd.ntmps38
        go_wp2_with (first
          | (go_at_call 44; refine HC.out.mono ?_; rw [HE.out]; rintro e w' ⟨rfl, rfl⟩)
          | (go_at_call 22; refine HR.out.mono ?_; rw [HV.out]; rintro e w' ⟨rfl, rfl⟩)
          | (go_at_call 56; refine HO.out.mono ?_; rintro e w1 ⟨A1, c1, r, rfl, hown, _, hc, hb⟩; rw [HN.out]))
        go_ret2
        rw [HK.out]
        exact ErrPost.err (by decide) hb
      | some R =>
        have HN := Lib.hid ho
        have HBD : Hid (∀ y, y ∈ R → 0 ≤ y ∧ y ≤ 1000000) := fun y hy => by
          have := (outerM_bd HL.out n R HN4.out ho).2 y hy
          have := HN4.out
          omega
        have HM : Hid (ranksM xs n = if tanB (arcsL (posL xs R) 0 (n / 2)) = false ∧ tanB (arcsL (posL xs R) 1 (n / 2)) = false then some R else none) := by
          unfold Hid ranksM
          rw [ho]
        have HKE : Hid (rkE xs n = if (ranksM xs n).isSome = true then 0 else 8) := by unfold Hid rkE; rw [if_pos he, if_pos hr]
        have HPR := Lib.hid (posL_rng (fun x hx => validB_range hv hx) HBD.out)
        clear he hr hv ho n400 n2
        go_enter Tryd.func38, Tryd.ntmps38
        go_wp2_with (first
          | (go_at_call 44; refine HC.out.mono ?_; rw [HE.out]; rintro e w' ⟨rfl, rfl⟩)
          | (go_at_call 22; refine HR.out.mono ?_; rw [HV.out]; rintro e w' ⟨rfl, rfl⟩)
          | (go_at_call 56; refine HO.out.mono ?_; rintro e w1 ⟨A1, c1, r, rfl, hown, hrr, hc, hb⟩; obtain rfl := hrr _ HN.out; rw [HN.out]))
        have HP := Lib.hid (positions_calls A A1 n cap c1 xs r w1 (h.below hb) hown.sl (by have := HN4.out; omega) (fun u hu => validB_range HVR.out hu) HBD.out)
        have HOWN := Lib.hid hown
        have HB := Lib.hid hb
        clear hown hrr hb
        refine HP.out.mono ?_
        rintro e w2 ⟨A2, c2, rfl, hown2, _, hb2⟩
        have HB2 := Lib.hid (HB.out.trans (hb2.mono HB.out.size))
        have HD := Lib.hid (drawn_calls A2 n c2 (posL xs r) w2 hown2.sl HN4.out HN2.out HPR.out)
        have HOWN2 := Lib.hid (HOWN.out.below hb2)
        clear hown2 hb2
        generalize tanB (arcsL (posL xs r) 0 (n / 2)) = t0 at HD HM
        generalize tanB (arcsL (posL xs r) 1 (n / 2)) = t1 at HD HM
        obtain ⟨d, hd⟩ : ∃ d, (!t0 && !t1) = d := ⟨_, rfl⟩
        rw [hd] at HD
        have HDD := Lib.hid hd
        clear hd
        go_wp2_with fail
        refine HD.out.mono ?_
        rintro e w3 ⟨rfl, hb3⟩
        have HB3 := Lib.hid (HB2.out.trans (hb3.mono HB2.out.size))
        have HOWN3 := Lib.hid (HOWN2.out.below hb3)
        clear hb3
        cases d
        · have HK : Hid (rkE xs n = 8) := by
            unfold Hid
            rw [HKE.out, HM.out, if_neg (by have := HDD.out; cases t0 <;> cases t1 <;> simp_all)]
            try rfl
          go_wp2_with fail
          go_ret2
          rw [HK.out]
          exact ErrPost.err (by decide) HB3.out
        · have HT : Hid (ranksM xs n = some r) := by
            unfold Hid
            rw [HM.out, if_pos (by have := HDD.out; cases t0 <;> cases t1 <;> simp_all)]
          have HK : Hid (rkE xs n = 0) := by
            unfold Hid
            rw [HKE.out, HT.out]
            rfl
          go_wp2_with fail
          go_ret2
          have e : rkR xs n = r := by unfold rkR; rw [HT.out]; rfl
          rw [e]
          exact ErrPost.ok HK.out HOWN3.out HB3.out
  · have HK : Hid (rkE xs n = errB 40 xs) := by unfold Hid rkE; rw [if_neg he]
    rcases errB_split (xs := xs) with q | q | q
    · exact absurd q he
    all_goals
      have HE := Lib.hid q
      rw [q] at HK
      clear he q
      go_enter Tryd.func38, Tryd.ntmps38
      go_wp2_with (go_at_call 44; refine HC.out.mono ?_; rw [HE.out]; rintro e w' ⟨rfl, rfl⟩)
      go_ret2
      rw [HK.out]
      exact ErrPost.err (by decide) (Below.refl _ _)

end Go.Proofs.YtenomnkdfiojbaaDoor
