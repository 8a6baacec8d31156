/-
  TurnP LawC6 LawE6, one after the other.
-/
import Derived.Test.YtjobnldepblciaaDoorTurnB
import Derived.Test.YtjobnldepblciaaDoorRefBk
import Derived.Test.YtjobnldepblciaaDoorLawC1
import Derived.Deep.RegionHeld3
import Derived.Test.YtjobnldepblciaaDoorRefX
import Derived.Test.YtjobnldepblciaaDoorDoorL

/-
  The reference's turned codes are the program's (pure).
-/
namespace Go.Proofs.YtjobnldepblciaaDoor
open Go.RowKit

theorem stepM_pos {n R j : Nat} (hR : R < n) (hj : j < n) : stepM n (R : Int) 1 j = if R + j < n then R + j else R + j - n := by
  unfold stepM
  rw [Int.add_emod_right]
  split
  · rw [Int.emod_eq_of_lt (by omega) (by omega)]; omega
  · rw [show (R : Int) + 1 * (j : Int) = ((R : Int) + j - n) + n by omega, Int.add_emod_right, Int.emod_eq_of_lt (by omega) (by omega)]; omega
theorem stepM_neg {n R j : Nat} (hR : R < n) (hj : j < n) : stepM n (R : Int) (-1) j = if j ≤ R then R - j else R + n - j := by
  unfold stepM
  split
  · rw [Int.add_emod_right, Int.emod_eq_of_lt (by omega) (by omega)]; omega
  · rw [Int.emod_eq_of_lt (by omega) (by omega)]; omega
theorem followL_get {ls : List Lt} {first step : Int} {j : Nat} (hj : j < ls.length) : (followL ls first step)[j]? = ls[stepM ls.length first step j]? := by
  have h1 := stepM_lt (n := ls.length) (by omega) first step j
  rw [List.getElem?_eq_getElem h1]
  exact followL_at hj (List.getElem?_eq_getElem h1)
theorem rot_follow {ls : List Lt} {R : Nat} (hR : R < ls.length) : ls.drop R ++ ls.take R = followL ls (R : Int) 1 := by
  apply List.ext_getElem?
  intro j
  by_cases hj : j < ls.length
  · rw [followL_get hj, stepM_pos hR hj]
    by_cases h : R + j < ls.length
    · rw [if_pos h, List.getElem?_append_left (by rw [List.length_drop]; omega), List.getElem?_drop]
    · rw [if_neg h, List.getElem?_append_right (by rw [List.length_drop]; omega), List.length_drop, List.getElem?_take, if_pos (by omega)]
      congr 1
      omega
  · rw [List.getElem?_eq_none (by simp; omega), List.getElem?_eq_none (by rw [followL_len]; omega)]
theorem back_follow {ls : List Lt} {R : Nat} (hR : R < ls.length) : ls.reverse.drop (ls.length - 1 - R) ++ ls.reverse.take (ls.length - 1 - R) = followL ls (R : Int) (-1) := by
  apply List.ext_getElem?
  intro j
  by_cases hj : j < ls.length
  · rw [followL_get hj, stepM_neg hR hj]
    by_cases h : j ≤ R
    · rw [if_pos h, List.getElem?_append_left (by rw [List.length_drop, List.length_reverse]; omega), List.getElem?_drop, List.getElem?_reverse (by omega)]
      congr 1
      omega
    · rw [if_neg h, List.getElem?_append_right (by rw [List.length_drop, List.length_reverse]; omega), List.length_drop, List.length_reverse, List.getElem?_take, if_pos (by omega), List.getElem?_reverse (by omega)]
      congr 1
      omega
  · rw [List.getElem?_eq_none (by simp; omega), List.getElem?_eq_none (by rw [followL_len]; omega)]

theorem swap_same {f : Int} {ls : List Lt} (hp : ∀ l, l ∈ ls → plainL f l) : ls.map swapL = ls.map rswapL := by
  refine List.map_congr_left fun l hl => ?_
  unfold swapL rswapL
  rcases hp l hl with h | h
  · rw [if_neg (by omega)]
    obtain ⟨h1, h2, h3, h4, _⟩ := h
    have hd : decide (l.kind = 2) = false := by rw [decide_eq_false_iff_not]; omega
    rw [hd, h3, Bool.false_and]
    cases l
    simp_all
  · rw [if_pos h.1]
    have hd : decide (l.kind = 2) = true := by rw [decide_eq_true_iff]; exact h.1
    rw [hd, Bool.true_and]
theorem mirror_same {f : Int} {ls : List Lt} (hp : ∀ l, l ∈ ls → plainL f l) : ls.map (mirL f ls) = ls.map (rmirL f ls) := by
  refine List.map_congr_left fun l hl => ?_
  unfold mirL rmirL
  by_cases hk : l.kind = 1
  · rw [if_pos hk, if_pos hk]
    rcases hp l hl with h | h
    · obtain ⟨h1, h2, h3, h4, _⟩ := h
      rw [hk, h2, h3, h4]
    · exact absurd (hk.symm.trans h.1) (by decide)
  · rw [if_neg hk, if_neg hk]
theorem turn_same {f : Int} {ls : List Lt} (hp : ∀ l, l ∈ ls → plainL f l) : ls.map otherL = ls.map rturnL := by
  refine List.map_congr_left fun l hl => ?_
  unfold otherL rturnL
  rcases hp l hl with h | h
  · rw [if_neg (by omega)]
    obtain ⟨h1, h2, h3, h4, _⟩ := h
    have hd : decide (l.kind = 2) = false := by rw [decide_eq_false_iff_not]; omega
    rw [hd, Bool.false_and]
    cases l
    simp_all
  · rw [if_pos h.1]
    have hd : decide (l.kind = 2) = true := by rw [decide_eq_true_iff]; exact h.1
    rw [hd, Bool.true_and]

theorem last_down {ls : List Lt} {R : Nat} (hev : cntB isPass ls % 2 = 0) (hR : R < ls.length) (hp : ∀ l, ls[R]? = some l → l.kind = 1) (hno : ∀ k l, R < k → ls[k]? = some l → l.kind ≠ 1) : downB ls R = false := by
  obtain ⟨l, hl⟩ : ∃ l, ls[R]? = some l := ⟨_, List.getElem?_eq_getElem hR⟩
  have h1 := cntB_succ (p := isPass) hl
  rw [if_pos (by simp [isPass, hp l hl])] at h1
  have h2 : cntB isPass ls = cntB isPass (ls.take (R + 1)) := by
    have hd : (ls.drop (R + 1)).filter isPass = [] := by
      rw [List.filter_eq_nil_iff]
      intro x hx hxp
      obtain ⟨i, hi⟩ := List.getElem?_of_mem hx
      rw [List.getElem?_drop] at hi
      exact hno _ x (by omega) hi (by simpa [isPass] using hxp)
    unfold cntB
    have e : ls.filter isPass = (ls.take (R + 1)).filter isPass ++ (ls.drop (R + 1)).filter isPass := by
      rw [← List.filter_append, List.take_append_drop]
    rw [e, hd, List.append_nil]
  unfold downB
  rw [decide_eq_false_iff_not]
  omega
theorem second_down {ls : List Lt} {R : Nat} (h0 : ∃ l, ls[0]? = some l ∧ l.kind = 1) (hR1 : 1 ≤ R) (hR : R < ls.length) (hno : ∀ k l, 1 ≤ k → k < R → ls[k]? = some l → l.kind ≠ 1) : downB ls R = false := by
  have h : ∀ t, t + 1 ≤ R → cntB isPass (ls.take (t + 1)) = 1 := by
    intro t
    induction t with
    | zero =>
      intro _
      obtain ⟨l, hl, hk⟩ := h0
      have h1 := cntB_succ (p := isPass) hl
      rw [if_pos (by simp [isPass, hk])] at h1
      rw [h1]
      simp [cntB]
    | succ t ih =>
      intro ht
      obtain ⟨l, hl⟩ : ∃ l, ls[t + 1]? = some l := ⟨_, List.getElem?_eq_getElem (by omega)⟩
      have h1 := cntB_succ (p := isPass) hl
      rw [if_neg (by simp [isPass, hno (t + 1) l (by omega) (by omega) hl])] at h1
      rw [h1, ih (by omega)]
      rfl
  have h1 := h (R - 1) (by omega)
  rw [show R - 1 + 1 = R by omega] at h1
  unfold downB
  rw [h1]
  rfl
theorem checkE_parts {f : Int} {ls : List Lt} (h : checkE f ls = 0) : closedB ls = true ∧ ∃ st, ordM ls (numP f ls) ls.length ls.length = some st := by
  unfold checkE at h
  split at h
  · cases h
  · split at h
    · cases h
    · split at h
      · cases h
      · rename_i hc
        split at h
        · cases h
        · split at h
          · cases h
          · rename_i st ho
            exact ⟨by simpa using hc, st, ho⟩
theorem checkE_rank {f : Int} {ls : List Lt} (h : checkE f ls = 0) : ∀ l, l ∈ ls → l.kind = 1 → (0 ≤ l.gate ∧ l.gate ≤ 1000) ∧ 0 ≤ l.rank ∧ l.rank ≤ 1000000 := by
  obtain ⟨z1, z2, z3⟩ := checkE_zero h
  obtain ⟨_, st, ho⟩ := checkE_parts h
  intro l hl hk
  have hq := (ord_fine z3 ho l hl hk).1
  unfold passOk at hq
  have e2 := cntB_take_le (inGate l.gate) ls ls.length
  rw [List.take_of_length_le (Nat.le_refl _)] at e2
  omega

end Go.Proofs.YtjobnldepblciaaDoor

/-
  The walk of the law CodeTurns.
-/
namespace Go.Proofs.YtjobnldepblciaaDoor
open Go.RowKit

theorem last_uniq {ls : List Lt} {r r' : Int} (h : LastP ls r) (h' : LastP ls r') (s : Int) : followL ls r s = followL ls r' s := by
  by_cases h0 : 0 < ls.length
  · obtain ⟨R, rfl, a1, a2, a3⟩ := h h0
    obtain ⟨R', rfl, b1, b2, b3⟩ := h' h0
    obtain ⟨l, hl⟩ : ∃ l, ls[R]? = some l := ⟨_, List.getElem?_eq_getElem a1⟩
    obtain ⟨l', hl'⟩ : ∃ l, ls[R']? = some l := ⟨_, List.getElem?_eq_getElem b1⟩
    have e : R = R' := by
      rcases Nat.lt_trichotomy R R' with q | q | q
      · exact absurd (b2 l' hl') (a3 R' l' q hl')
      · exact q
      · exact absurd (a2 l hl) (b3 R l q hl)
    rw [e]
  · have e : ls = [] := List.eq_nil_of_length_eq_zero (by omega)
    subst e
    rfl
theorem next_uniq {ls xs : List Lt} {r r' : Int} (h : NextP ls r) (h' : NextP ls r') (hx : xs.length = ls.length) (s : Int) : followL xs r s = followL xs r' s := by
  by_cases h0 : 0 < ls.length
  · obtain ⟨R, rfl, a0, a1, a2, a3⟩ := h h0
    obtain ⟨R', rfl, b0, b1, b2, b3⟩ := h' h0
    obtain ⟨l, hl⟩ : ∃ l, ls[R]? = some l := ⟨_, List.getElem?_eq_getElem a1⟩
    obtain ⟨l', hl'⟩ : ∃ l, ls[R']? = some l := ⟨_, List.getElem?_eq_getElem b1⟩
    have e : R = R' := by
      rcases Nat.lt_trichotomy R R' with q | q | q
      · exact absurd (a2 l hl) (b3 R l a0 q hl)
      · exact q
      · exact absurd (b2 l' hl') (a3 R' l' b0 q hl')
    rw [e]
  · have e : xs = [] := List.eq_nil_of_length_eq_zero (by omega)
    subst e
    rfl

/-- The eight calls of the law on a valid code: the program's and the reference's. -/
theorem turns_all (f : Int) (A : Option Addr) (n c : Nat) (ls : List Lt) (w : World) (hL : LS w A n ls) (hI : ∀ l, l ∈ ls → I64 l.id) (hz : A = none → c = 0) (hsp : ∀ a, A = some a → a.spot = none) (hA : ∀ b off, A = some ⟨b, off, none⟩ → b < w.heap.size) (hv : checkE f ls = 0) :
    ∃ L1 L2 L3 L4 : List Lt, (L1.length = n ∧ L2.length = n ∧ L3.length = n ∧ L4.length = n) ∧

      (∀ W, Below w.heap.size w W → Calls Tryd.prog 22 #[.agg #[.int .i64 f, .slice A n c]] W (OkL f n L1 W)) ∧
      (∀ W, Below w.heap.size w W → Calls Tryd.prog 33 #[.agg #[.int .i64 f, .slice A n c]] W (OkC f n L1 W)) ∧
      (∀ W, Below w.heap.size w W → Calls Tryd.prog 23 #[.agg #[.int .i64 f, .slice A n c]] W (OkL f n L2 W)) ∧
      (∀ W, Below w.heap.size w W → Calls Tryd.prog 34 #[.agg #[.int .i64 f, .slice A n c]] W (OkC f n L2 W)) ∧
      (∀ W, Below w.heap.size w W → Calls Tryd.prog 24 #[.agg #[.int .i64 f, .slice A n c]] W (OkL f n L3 W)) ∧
      (∀ W, Below w.heap.size w W → Calls Tryd.prog 35 #[.agg #[.int .i64 f, .slice A n c]] W (OkC f n L3 W)) ∧
      (∀ W, Below w.heap.size w W → Calls Tryd.prog 25 #[.agg #[.int .i64 f, .slice A n c]] W (OkL f n L4 W)) ∧
      (∀ W, Below w.heap.size w W → Calls Tryd.prog 36 #[.agg #[.int .i64 f, .slice A n c]] W (OkC f n L4 W)) := by
  have hlen := hL.1
  obtain ⟨z1, z2, z3⟩ := checkE_zero hv
  obtain ⟨hcl, _, _⟩ := checkE_parts hv
  have hrk := checkE_rank hv
  have hn : n ≤ 1000 := by omega
  obtain ⟨fn, rfl⟩ : ∃ fn : Nat, f = (fn : Int) := ⟨f.toNat, by omega⟩
  have hC : ∀ W, Below w.heap.size w W → ChkAt (fn : Int) A n c 0 W := by
    intro W hW V hV
    have hWV := hW.trans (hV.mono hW.size)
    have h := check_calls (fn : Int) A n c ls V (hL.below hWV) (fun b off e => Nat.lt_of_lt_of_le (hA b off e) hWV.size) hI
    rw [hv] at h
    exact h
  obtain ⟨r0, hr0, _, _⟩ := back_ix A n c ls w hL hn hcl
  obtain ⟨r1, hr1, _, _⟩ := turn_ix A n c ls w hL hn hcl
  have hsg : ∀ l, l ∈ ls → -1000 ≤ l.sign ∧ l.sign ≤ 1000 := fun l hl => plain_sign (z3 l hl)
  refine ⟨followL ls r0 (-1), ls.map swapL, ls.map (mirL (fn : Int) ls), followL (ls.map otherL) r1 1, ⟨by rw [followL_len]; exact hlen, by rw [List.length_map]; exact hlen, by rw [List.length_map]; exact hlen, by rw [followL_len, List.length_map]; exact hlen⟩, ?_, ?_, ?_, ?_, ?_, ?_, ?_, ?_⟩
  · intro W hW
    refine (back_calls (fn : Int) A n c ls W (hL.below hW) hn hcl (hC W hW)).mono ?_
    rintro e w' ⟨r, hr, h⟩
    rw [last_uniq hr0 hr]
    exact h
  · intro W hW
    by_cases h0 : 0 < ls.length
    · obtain ⟨R, rfl, a1, a2, a3⟩ := hr0 h0
      obtain ⟨_, _, _, hev⟩ := closed_first hcl h0
      have h := refBack_calls (fn : Int) A n c (ls.length - 1 - R) ls W (hL.below hW) hn (fun _ => by
        have e : n - 1 - (ls.length - 1 - R) = R := by omega
        rw [e]
        exact ⟨by omega, a2, last_down hev a1 a2 a3, fun k l hk hl => a3 (n - 1 - k) l (by omega) hl⟩)
      rw [back_follow a1] at h
      exact h
    · have e : ls = [] := List.eq_nil_of_length_eq_zero (by omega)
      subst e
      exact refBack_calls (fn : Int) A n c 0 [] W (hL.below hW) hn (fun h => by simp at hlen; omega)
  · exact fun W hW => swap_calls (fn : Int) A n c ls W (hL.below hW) hn z3 (hC W hW)
  · intro W hW
    rw [swap_same z3]
    exact refSwap_calls (fn : Int) A n c ls W (hL.below hW) hz hsp hn hsg
  · exact fun W hW => mirror_calls fn A n c ls W (hL.below hW) hn (by omega) z3 (fun l hl hk => (hrk l hl hk).2) (hC W hW)
  · intro W hW
    rw [mirror_same z3]
    exact refMirror_calls (fn : Int) A n c ls W (hL.below hW) hz hsp hn hsg (by omega) hrk
  · intro W hW
    refine (turn_calls' (fn : Int) A n c ls W (hL.below hW) hn hcl (hC W hW)).mono ?_
    rintro e w' ⟨r, hr, h⟩
    rw [next_uniq hr1 hr (List.length_map _)]
    exact h
  · intro W hW
    by_cases h0 : 0 < ls.length
    · obtain ⟨R, rfl, a0, a1, a2, a3⟩ := hr1 h0
      obtain ⟨l0, hl0, hk0, _⟩ := closed_first hcl h0
      have h := refTurn_calls (fn : Int) A n c R ls W (hL.below hW) hz hsp hn (fun _ => ⟨by omega, a2, second_down ⟨l0, hl0, hk0⟩ a0 a1 a3, fun k l hk hl hkk => by
        by_cases e : k = 0
        · subst e
          unfold downB
          rw [List.take_zero]
          rfl
        · exact absurd hkk (a3 k l (by omega) hk hl)⟩)
      rw [rot_follow (by rw [List.length_map]; exact a1), ← turn_same z3] at h
      exact h
    · have e : ls = [] := List.eq_nil_of_length_eq_zero (by omega)
      subst e
      exact refTurn_calls (fn : Int) A n c 0 [] W (hL.below hW) hz hsp hn (fun h => by simp at hlen; omega)

/-- The code in its variable, and the codes that were made of it in theirs. -/
def TBs (f : Int) (n : Nat) (vc : Value) (w : World) (P : Nat) (bs : List (Nat × Nat × List Lt)) (W : World) : Prop :=
  Below w.heap.size w W ∧ W.heap[P]? = some (.cells #[.int .i64 f, vc] 24 (0, 0)) ∧ ∀ x, x ∈ bs → W.heap[x.1]? = some (.cells #[.int .i64 f, .slice (some ⟨x.2.1, 0, none⟩) n n] 24 (0, 0)) ∧ LS W (some ⟨x.2.1, 0, none⟩) n x.2.2
theorem TBs.step {f : Int} {n : Nat} {vc : Value} {w W W' : World} {P : Nat} {bs : List (Nat × Nat × List Lt)} (h : TBs f n vc w P bs W) (hb : Below W.heap.size W W') : TBs f n vc w P bs W' :=
  ⟨h.1.trans (hb.mono h.1.size), (hb.block _ (heap_lt h.2.1)).trans h.2.1, fun x hx => ⟨(hb.block _ (heap_lt (h.2.2 x hx).1)).trans (h.2.2 x hx).1, (h.2.2 x hx).2.below hb⟩⟩
theorem TBs.add {f : Int} {n : Nat} {vc : Value} {w W : World} {P : Nat} {bs : List (Nat × Nat × List Lt)} (h : TBs f n vc w P bs W) (g : Nat) (L : List Lt) (hl : LS W (some ⟨g, 0, none⟩) n L) :
    TBs f n vc w P ((W.heap.size, g, L) :: bs) (W.alloc (.cells #[.int .i64 f, .slice (some ⟨g, 0, none⟩) n n] 24)) := by
  have hb : Below W.heap.size W (W.alloc (.cells #[.int .i64 f, .slice (some ⟨g, 0, none⟩) n n] 24)) := (Below.refl _ _).alloc (Nat.le_refl _) _
  obtain ⟨h1, h2, h3⟩ := h.step hb
  refine ⟨h1, h2, fun x hx => ?_⟩
  rcases List.mem_cons.1 hx with rfl | hx
  · exact ⟨heap_alloc_new W _, hl.below hb⟩
  · exact h3 x hx

/-- What the law's last statement reads. -/
def TuS (P B1 B2 B3 B4 : Nat) (f : Int) (vc v1 v2 v3 v4 : Value) (V w' : World) : Prop :=
  w'.cell? ⟨P, 0, none⟩ = some (.int .i64 f) ∧ w'.cell? ⟨P, 1, none⟩ = some vc ∧ w'.cell? ⟨B1, 0, none⟩ = some (.int .i64 f) ∧ w'.cell? ⟨B1, 1, none⟩ = some v1 ∧ w'.cell? ⟨B2, 0, none⟩ = some (.int .i64 f) ∧ w'.cell? ⟨B2, 1, none⟩ = some v2 ∧ w'.cell? ⟨B3, 0, none⟩ = some (.int .i64 f) ∧ w'.cell? ⟨B3, 1, none⟩ = some v3 ∧ w'.cell? ⟨B4, 0, none⟩ = some (.int .i64 f) ∧ w'.cell? ⟨B4, 1, none⟩ = some v4 ∧ Below V.heap.size V w'
theorem TuS.last {P B1 B2 B3 B4 : Nat} {f : Int} {vc v1 v2 v3 v4 : Value} {V w' : World} (h : TuS P B1 B2 B3 B4 f vc v1 v2 v3 v4 V w') : Below V.heap.size V w' := h.2.2.2.2.2.2.2.2.2.2
theorem TuS.of {P B1 B2 B3 B4 : Nat} {f : Int} {vc v1 v2 v3 v4 : Value} {V w' : World} (h0 : V.heap[P]? = some (.cells #[.int .i64 f, vc] 24 (0, 0))) (h1 : V.heap[B1]? = some (.cells #[.int .i64 f, v1] 24 (0, 0))) (h2 : V.heap[B2]? = some (.cells #[.int .i64 f, v2] 24 (0, 0)))
    (h3 : V.heap[B3]? = some (.cells #[.int .i64 f, v3] 24 (0, 0))) (h4 : V.heap[B4]? = some (.cells #[.int .i64 f, v4] 24 (0, 0))) (hb : Below V.heap.size V w') : TuS P B1 B2 B3 B4 f vc v1 v2 v3 v4 V w' := by
  have e : ∀ q o, V.heap[q]? = some o → w'.heap[q]? = some o := fun q o hq => (hb.block q (heap_lt hq)).trans hq
  exact ⟨Lib.cell_of_heap (e _ _ h0) 0, Lib.cell_of_heap (e _ _ h0) 1, Lib.cell_of_heap (e _ _ h1) 0, Lib.cell_of_heap (e _ _ h1) 1, Lib.cell_of_heap (e _ _ h2) 0, Lib.cell_of_heap (e _ _ h2) 1, Lib.cell_of_heap (e _ _ h3) 0, Lib.cell_of_heap (e _ _ h3) 1, Lib.cell_of_heap (e _ _ h4) 0, Lib.cell_of_heap (e _ _ h4) 1, hb⟩

set_option maxHeartbeats 16000000 in
set_option maxRecDepth 100000 in
theorem codeTurns_main (f : Int) (A : Option Addr) (n c : Nat) (L1 L2 L3 L4 : List Lt) (w : World) (hn60 : n ≤ 60) (hln : L1.length = n ∧ L2.length = n ∧ L3.length = n ∧ L4.length = n)
    (hRC : ∀ W, Below w.heap.size w W → Calls Tryd.prog 12 #[.agg #[.int .i64 f, .slice A n c]] W fun e w' => e = .returned (.int .i64 0) ∧ Below W.heap.size W w')
    (h1 : ∀ W, Below w.heap.size w W → Calls Tryd.prog 22 #[.agg #[.int .i64 f, .slice A n c]] W (OkL f n L1 W))
    (k1 : ∀ W, Below w.heap.size w W → Calls Tryd.prog 33 #[.agg #[.int .i64 f, .slice A n c]] W (OkC f n L1 W))
    (h2 : ∀ W, Below w.heap.size w W → Calls Tryd.prog 23 #[.agg #[.int .i64 f, .slice A n c]] W (OkL f n L2 W))
    (k2 : ∀ W, Below w.heap.size w W → Calls Tryd.prog 34 #[.agg #[.int .i64 f, .slice A n c]] W (OkC f n L2 W))
    (h3 : ∀ W, Below w.heap.size w W → Calls Tryd.prog 24 #[.agg #[.int .i64 f, .slice A n c]] W (OkL f n L3 W))
    (k3 : ∀ W, Below w.heap.size w W → Calls Tryd.prog 35 #[.agg #[.int .i64 f, .slice A n c]] W (OkC f n L3 W))
    (h4 : ∀ W, Below w.heap.size w W → Calls Tryd.prog 25 #[.agg #[.int .i64 f, .slice A n c]] W (OkL f n L4 W))
    (k4 : ∀ W, Below w.heap.size w W → Calls Tryd.prog 36 #[.agg #[.int .i64 f, .slice A n c]] W (OkC f n L4 W))
    (hT : ItoaAll w) :
    Calls Tryd.prog 6 #[.agg #[.int .i64 f, .slice A n c]] w fun e w' => e = .returned (.bool true) ∧ Below w.heap.size w w' := by
  have HRC := Lib.hid hRC
  have HT := Lib.hid hT
  have HN := Lib.hid hln
  have hle : n ≤ 1000000 := by omega
  have H1 := Lib.hid h1
  have K1 := Lib.hid k1
  have H2 := Lib.hid h2
  have K2 := Lib.hid k2
  have H3 := Lib.hid h3
  have K3 := Lib.hid k3
  have H4 := Lib.hid h4
  have K4 := Lib.hid k4
  have HKN : Hid (∀ W, Below w.heap.size w W → Calls Tryd.prog 10 #[] W fun e w' => e = .returned (.bool true) ∧ Below W.heap.size W w') := fun W hW => known_calls W (HT.out.below hW)
  have t1 : decide ((n : Int) ≤ 60) = true := by rw [decide_eq_true_iff]; omega
  have HSM := Lib.hid (fun W => small_calls f A n c true W t1)
  clear hRC hT hln hn60 h1 h2 h3 h4 k1 k2 k3 k4
  go_enter Tryd.func6, Tryd.ntmps6
  go_wp2_with fail
  have Z0 : Hid (TBs f n (.slice A n c) w w.heap.size [] (w.alloc (.cells #[.int .i64 f, .slice A n c] 24))) := ⟨(Below.refl _ _).alloc (Nat.le_refl _) _, heap_alloc_new w _, fun x hx => by cases hx⟩
  obtain ⟨P, hP⟩ : ∃ P, P = w.heap.size := ⟨_, rfl⟩
  refine (HSM.out _).mono ?_
  rintro e w1 ⟨rfl, hb⟩
  have Z1 := Lib.hid (Z0.out.step hb)
  rw [← hP] at Z1 ⊢
  have a0 := Lib.cell_of_heap Z1.out.2.1 0
  have a1 := Lib.cell_of_heap Z1.out.2.1 1
  clear hb Z0 hP
  go_wp2_with fail
  refine (HRC.out _ Z1.out.1).mono ?_
  rintro e w2 ⟨rfl, hb⟩
  have Z2 := Lib.hid (Z1.out.step hb)
  clear a0 a1
  have a0 := Lib.cell_of_heap Z2.out.2.1 0
  have a1 := Lib.cell_of_heap Z2.out.2.1 1
  clear hb Z1
  go_wp2_with fail
  refine (H1.out _ Z2.out.1).mono ?_
  rintro e w3 ⟨g1, rfl, ho, hb⟩
  have Z3 := Lib.hid ((Z2.out.step hb).add g1 L1 (OwnL.lsN ho HN.out.1))
  obtain ⟨B1, hB1⟩ : ∃ B, B = w3.heap.size := ⟨_, rfl⟩
  obtain ⟨V1, hV1⟩ : ∃ V, V = w3.alloc (.cells #[.int .i64 f, .slice (some ⟨g1, 0, none⟩) n n] 24) := ⟨_, rfl⟩
  rw [← hV1, ← hB1] at Z3
  clear a0 a1
  have a0 := Lib.cell_of_heap Z3.out.2.1 0
  have a1 := Lib.cell_of_heap Z3.out.2.1 1
  have HV1 := Lib.hid hV1
  have HB1 := Lib.hid hB1
  rw [hV1] at a0 a1
  clear hb ho Z2 hV1 hB1
  go_wp2_with fail
  rw [← HB1.out, ← HV1.out]
  refine (H2.out _ Z3.out.1).mono ?_
  rintro e w4 ⟨g2, rfl, ho, hb⟩
  have Z4 := Lib.hid ((Z3.out.step hb).add g2 L2 (OwnL.lsN ho HN.out.2.1))
  obtain ⟨B2, hB2⟩ : ∃ B, B = w4.heap.size := ⟨_, rfl⟩
  obtain ⟨V2, hV2⟩ : ∃ V, V = w4.alloc (.cells #[.int .i64 f, .slice (some ⟨g2, 0, none⟩) n n] 24) := ⟨_, rfl⟩
  rw [← hV2, ← hB2] at Z4
  clear a0 a1
  have a0 := Lib.cell_of_heap Z4.out.2.1 0
  have a1 := Lib.cell_of_heap Z4.out.2.1 1
  have HV2 := Lib.hid hV2
  have HB2 := Lib.hid hB2
  rw [hV2] at a0 a1
  clear hb ho Z3 hV2 hB2
  go_wp2_with fail
  rw [← HB2.out, ← HV2.out]
  refine (H3.out _ Z4.out.1).mono ?_
  rintro e w5 ⟨g3, rfl, ho, hb⟩
  have Z5 := Lib.hid ((Z4.out.step hb).add g3 L3 (OwnL.lsN ho HN.out.2.2.1))
  obtain ⟨B3, hB3⟩ : ∃ B, B = w5.heap.size := ⟨_, rfl⟩
  obtain ⟨V3, hV3⟩ : ∃ V, V = w5.alloc (.cells #[.int .i64 f, .slice (some ⟨g3, 0, none⟩) n n] 24) := ⟨_, rfl⟩
  rw [← hV3, ← hB3] at Z5
  clear a0 a1
  have a0 := Lib.cell_of_heap Z5.out.2.1 0
  have a1 := Lib.cell_of_heap Z5.out.2.1 1
  have HV3 := Lib.hid hV3
  have HB3 := Lib.hid hB3
  rw [hV3] at a0 a1
  clear hb ho Z4 hV3 hB3
  go_wp2_with fail
  rw [← HB3.out, ← HV3.out]
  refine (H4.out _ Z5.out.1).mono ?_
  rintro e w6 ⟨g4, rfl, ho, hb⟩
  have Z6 := Lib.hid ((Z5.out.step hb).add g4 L4 (OwnL.lsN ho HN.out.2.2.2))
  obtain ⟨B4, hB4⟩ : ∃ B, B = w6.heap.size := ⟨_, rfl⟩
  obtain ⟨V4, hV4⟩ : ∃ V, V = w6.alloc (.cells #[.int .i64 f, .slice (some ⟨g4, 0, none⟩) n n] 24) := ⟨_, rfl⟩
  rw [← hV4, ← hB4] at Z6
  clear a0 a1
  have a0 := Lib.cell_of_heap Z6.out.2.1 0
  have a1 := Lib.cell_of_heap Z6.out.2.1 1
  have HV4 := Lib.hid hV4
  have HB4 := Lib.hid hB4
  rw [hV4] at a0 a1
  clear hb ho Z5 hV4 hB4
  go_wp2_with fail
  rw [← HB4.out, ← HV4.out]
  have hS0 := Z6.out.2.1
  obtain ⟨hS1, hl1⟩ := Z6.out.2.2 (B1, g1, L1) (by simp)
  obtain ⟨hS2, hl2⟩ := Z6.out.2.2 (B2, g2, L2) (by simp)
  obtain ⟨hS3, hl3⟩ := Z6.out.2.2 (B3, g3, L3) (by simp)
  obtain ⟨hS4, hl4⟩ := Z6.out.2.2 (B4, g4, L4) (by simp)
  have HB1L := Lib.hid hl1
  have HB2L := Lib.hid hl2
  have HB3L := Lib.hid hl3
  have HB4L := Lib.hid hl4
  clear a0 a1 hl1 hl2 hl3 hl4
  go_region_held3 (fun w' => w'.cell? ⟨P, 0, none⟩ = some (.int .i64 f) ∧ w'.cell? ⟨P, 1, none⟩ = some (.slice A n c) ∧ w'.cell? ⟨B1, 0, none⟩ = some (.int .i64 f) ∧ w'.cell? ⟨B1, 1, none⟩ = some (.slice (some ⟨g1, 0, none⟩) n n) ∧ w'.cell? ⟨B2, 0, none⟩ = some (.int .i64 f) ∧ w'.cell? ⟨B2, 1, none⟩ = some (.slice (some ⟨g2, 0, none⟩) n n) ∧ w'.cell? ⟨B3, 0, none⟩ = some (.int .i64 f) ∧ w'.cell? ⟨B3, 1, none⟩ = some (.slice (some ⟨g3, 0, none⟩) n n) ∧ w'.cell? ⟨B4, 0, none⟩ = some (.int .i64 f) ∧ w'.cell? ⟨B4, 1, none⟩ = some (.slice (some ⟨g4, 0, none⟩) n n) ∧ Below V4.heap.size V4 w')
    (first
      | exact TuS.of (P := P) (B1 := B1) (B2 := B2) (B3 := B3) (B4 := B4) (f := f) (vc := .slice A n c) (v1 := (.slice (some ⟨g1, 0, none⟩) n n)) (v2 := (.slice (some ⟨g2, 0, none⟩) n n)) (v3 := (.slice (some ⟨g3, 0, none⟩) n n)) (v4 := (.slice (some ⟨g4, 0, none⟩) n n)) hS0 hS1 hS2 hS3 hS4 (Below.refl _ _).drew
      | exact TuS.of (P := P) (B1 := B1) (B2 := B2) (B3 := B3) (B4 := B4) (f := f) (vc := .slice A n c) (v1 := (.slice (some ⟨g1, 0, none⟩) n n)) (v2 := (.slice (some ⟨g2, 0, none⟩) n n)) (v3 := (.slice (some ⟨g3, 0, none⟩) n n)) (v4 := (.slice (some ⟨g4, 0, none⟩) n n)) hS0 hS1 hS2 hS3 hS4 ((TuS.last (P := P) (B1 := B1) (B2 := B2) (B3 := B3) (B4 := B4) (f := f) (vc := .slice A n c) (v1 := (.slice (some ⟨g1, 0, none⟩) n n)) (v2 := (.slice (some ⟨g2, 0, none⟩) n n)) (v3 := (.slice (some ⟨g3, 0, none⟩) n n)) (v4 := (.slice (some ⟨g4, 0, none⟩) n n)) (V := V4) (by assumption)).trans (hbw.mono (TuS.last (P := P) (B1 := B1) (B2 := B2) (B3 := B3) (B4 := B4) (f := f) (vc := .slice A n c) (v1 := (.slice (some ⟨g1, 0, none⟩) n n)) (v2 := (.slice (some ⟨g2, 0, none⟩) n n)) (v3 := (.slice (some ⟨g3, 0, none⟩) n n)) (v4 := (.slice (some ⟨g4, 0, none⟩) n n)) (V := V4) (by assumption)).size)))
    (first
      | (go_at_call 33; (with_reducible refine (K1.out _ ?hbx).mono ?_); (case hbx => exact Z6.out.1.trans ((TuS.last (P := P) (B1 := B1) (B2 := B2) (B3 := B3) (B4 := B4) (f := f) (vc := .slice A n c) (v1 := (.slice (some ⟨g1, 0, none⟩) n n)) (v2 := (.slice (some ⟨g2, 0, none⟩) n n)) (v3 := (.slice (some ⟨g3, 0, none⟩) n n)) (v4 := (.slice (some ⟨g4, 0, none⟩) n n)) (V := V4) (by assumption)).mono Z6.out.1.size)); rintro e w2 ⟨A1, c1, rfl, hrow1, hbw⟩; have HE1 := Lib.hid (row_ls hrow1 HN.out.1); clear hrow1)
      | (go_at_call 34; (with_reducible refine (K2.out _ ?hbx).mono ?_); (case hbx => exact Z6.out.1.trans ((TuS.last (P := P) (B1 := B1) (B2 := B2) (B3 := B3) (B4 := B4) (f := f) (vc := .slice A n c) (v1 := (.slice (some ⟨g1, 0, none⟩) n n)) (v2 := (.slice (some ⟨g2, 0, none⟩) n n)) (v3 := (.slice (some ⟨g3, 0, none⟩) n n)) (v4 := (.slice (some ⟨g4, 0, none⟩) n n)) (V := V4) (by assumption)).mono Z6.out.1.size)); rintro e w2 ⟨A2, c2, rfl, hrow2, hbw⟩; have HE2 := Lib.hid (row_ls hrow2 HN.out.2.1); clear hrow2)
      | (go_at_call 35; (with_reducible refine (K3.out _ ?hbx).mono ?_); (case hbx => exact Z6.out.1.trans ((TuS.last (P := P) (B1 := B1) (B2 := B2) (B3 := B3) (B4 := B4) (f := f) (vc := .slice A n c) (v1 := (.slice (some ⟨g1, 0, none⟩) n n)) (v2 := (.slice (some ⟨g2, 0, none⟩) n n)) (v3 := (.slice (some ⟨g3, 0, none⟩) n n)) (v4 := (.slice (some ⟨g4, 0, none⟩) n n)) (V := V4) (by assumption)).mono Z6.out.1.size)); rintro e w2 ⟨A3, c3, rfl, hrow3, hbw⟩; have HE3 := Lib.hid (row_ls hrow3 HN.out.2.2.1); clear hrow3)
      | (go_at_call 36; (with_reducible refine (K4.out _ ?hbx).mono ?_); (case hbx => exact Z6.out.1.trans ((TuS.last (P := P) (B1 := B1) (B2 := B2) (B3 := B3) (B4 := B4) (f := f) (vc := .slice A n c) (v1 := (.slice (some ⟨g1, 0, none⟩) n n)) (v2 := (.slice (some ⟨g2, 0, none⟩) n n)) (v3 := (.slice (some ⟨g3, 0, none⟩) n n)) (v4 := (.slice (some ⟨g4, 0, none⟩) n n)) (V := V4) (by assumption)).mono Z6.out.1.size)); rintro e w2 ⟨A4, c4, rfl, hrow4, hbw⟩; have HE4 := Lib.hid (row_ls hrow4 HN.out.2.2.2); clear hrow4)
      | (go_at_call 10; (with_reducible refine (HKN.out _ ?hbx).mono ?_); (case hbx => exact Z6.out.1.trans ((TuS.last (P := P) (B1 := B1) (B2 := B2) (B3 := B3) (B4 := B4) (f := f) (vc := .slice A n c) (v1 := (.slice (some ⟨g1, 0, none⟩) n n)) (v2 := (.slice (some ⟨g2, 0, none⟩) n n)) (v3 := (.slice (some ⟨g3, 0, none⟩) n n)) (v4 := (.slice (some ⟨g4, 0, none⟩) n n)) (V := V4) (by assumption)).mono Z6.out.1.size)); rintro e w2 ⟨rfl, hbw⟩)
      | (go_at_call 30; (with_reducible refine (codeEq_yes f (some ⟨g4, 0, none⟩) A4 n n n c4 L4 _ ?hl HE4.out hle).mono ?_); (case hl => exact HB4L.out.below (TuS.last (P := P) (B1 := B1) (B2 := B2) (B3 := B3) (B4 := B4) (f := f) (vc := .slice A n c) (v1 := (.slice (some ⟨g1, 0, none⟩) n n)) (v2 := (.slice (some ⟨g2, 0, none⟩) n n)) (v3 := (.slice (some ⟨g3, 0, none⟩) n n)) (v4 := (.slice (some ⟨g4, 0, none⟩) n n)) (V := V4) (by assumption))); rintro e w2 ⟨rfl, hbw⟩)
      | (go_at_call 30; (with_reducible refine (codeEq_yes f (some ⟨g3, 0, none⟩) A3 n n n c3 L3 _ ?hl HE3.out hle).mono ?_); (case hl => exact HB3L.out.below (TuS.last (P := P) (B1 := B1) (B2 := B2) (B3 := B3) (B4 := B4) (f := f) (vc := .slice A n c) (v1 := (.slice (some ⟨g1, 0, none⟩) n n)) (v2 := (.slice (some ⟨g2, 0, none⟩) n n)) (v3 := (.slice (some ⟨g3, 0, none⟩) n n)) (v4 := (.slice (some ⟨g4, 0, none⟩) n n)) (V := V4) (by assumption))); rintro e w2 ⟨rfl, hbw⟩)
      | (go_at_call 30; (with_reducible refine (codeEq_yes f (some ⟨g2, 0, none⟩) A2 n n n c2 L2 _ ?hl HE2.out hle).mono ?_); (case hl => exact HB2L.out.below (TuS.last (P := P) (B1 := B1) (B2 := B2) (B3 := B3) (B4 := B4) (f := f) (vc := .slice A n c) (v1 := (.slice (some ⟨g1, 0, none⟩) n n)) (v2 := (.slice (some ⟨g2, 0, none⟩) n n)) (v3 := (.slice (some ⟨g3, 0, none⟩) n n)) (v4 := (.slice (some ⟨g4, 0, none⟩) n n)) (V := V4) (by assumption))); rintro e w2 ⟨rfl, hbw⟩)
      | (go_at_call 30; (with_reducible refine (codeEq_yes f (some ⟨g1, 0, none⟩) A1 n n n c1 L1 _ ?hl HE1.out hle).mono ?_); (case hl => exact HB1L.out.below (TuS.last (P := P) (B1 := B1) (B2 := B2) (B3 := B3) (B4 := B4) (f := f) (vc := .slice A n c) (v1 := (.slice (some ⟨g1, 0, none⟩) n n)) (v2 := (.slice (some ⟨g2, 0, none⟩) n n)) (v3 := (.slice (some ⟨g3, 0, none⟩) n n)) (v4 := (.slice (some ⟨g4, 0, none⟩) n n)) (V := V4) (by assumption))); rintro e w2 ⟨rfl, hbw⟩))
  have hS : TuS P B1 B2 B3 B4 f (.slice A n c) (.slice (some ⟨g1, 0, none⟩) n n) (.slice (some ⟨g2, 0, none⟩) n n) (.slice (some ⟨g3, 0, none⟩) n n) (.slice (some ⟨g4, 0, none⟩) n n) V4 w2 := by assumption
  have HF : Hid (Below w.heap.size w w2) := Z6.out.1.trans (hS.last.mono Z6.out.1.size)
  clear hS
  go_wp2_with fail
  go_ret
  exact ⟨rfl, HF.out⟩

end Go.Proofs.YtjobnldepblciaaDoor

/-
  The law CodeTurns: whole.
-/
namespace Go.Proofs.YtjobnldepblciaaDoor
open Go.RowKit

set_option maxHeartbeats 8000000 in
set_option maxRecDepth 100000 in
theorem codeTurns_big (f : Int) (A : Option Addr) (n c : Nat) (w : World) (hn : ¬ n ≤ 60) (hT : ItoaAll w) :
    Calls Tryd.prog 6 #[.agg #[.int .i64 f, .slice A n c]] w fun e w' => e = .returned (.bool true) ∧ Below w.heap.size w w' := by
  have HT := Lib.hid hT
  have t1 : decide ((n : Int) ≤ 60) = false := by rw [decide_eq_false_iff_not]; omega
  have HSM := Lib.hid (fun W => small_calls f A n c false W t1)
  clear hT hn
  go_enter Tryd.func6, Tryd.ntmps6
  go_wp2_with fail
  have HB0 : Hid (Below w.heap.size w (w.alloc (.cells #[.int .i64 f, .slice A n c] 24))) := (Below.refl _ _).alloc (Nat.le_refl _) _
  refine (HSM.out _).mono ?_
  rintro e w1 ⟨rfl, hb⟩
  have HB1 : Hid (Below w.heap.size w w1) := HB0.out.trans (hb.mono HB0.out.size)
  clear hb
  go_wp2_with fail
  refine (known_calls _ (HT.out.below HB1.out)).mono ?_
  rintro e w2 ⟨rfl, hb⟩
  have HB2 : Hid (Below w.heap.size w w2) := HB1.out.trans (hb.mono HB1.out.size)
  clear hb
  go_wp2_with fail
  go_ret
  exact ⟨rfl, HB2.out⟩

set_option maxHeartbeats 8000000 in
set_option maxRecDepth 100000 in
theorem codeTurns_bad (f : Int) (A : Option Addr) (n c : Nat) (ce : Int) (w : World) (hn : n ≤ 60) (hz : ce ≠ 0) (hRC : ∀ W, Below w.heap.size w W → Calls Tryd.prog 12 #[.agg #[.int .i64 f, .slice A n c]] W fun e w' => e = .returned (.int .i64 ce) ∧ Below W.heap.size W w') (hT : ItoaAll w) :
    Calls Tryd.prog 6 #[.agg #[.int .i64 f, .slice A n c]] w fun e w' => e = .returned (.bool true) ∧ Below w.heap.size w w' := by
  have HT := Lib.hid hT
  have HRC := Lib.hid hRC
  have t1 : decide ((n : Int) ≤ 60) = true := by rw [decide_eq_true_iff]; omega
  have HSM := Lib.hid (fun W => small_calls f A n c true W t1)
  have hzb : (ce != 0) = true := by simp [hz]
  clear hT hn hRC
  go_enter Tryd.func6, Tryd.ntmps6
  go_wp2_with fail
  have Z0 : Hid (TBs f n (.slice A n c) w w.heap.size [] (w.alloc (.cells #[.int .i64 f, .slice A n c] 24))) := ⟨(Below.refl _ _).alloc (Nat.le_refl _) _, heap_alloc_new w _, fun x hx => by cases hx⟩
  refine (HSM.out _).mono ?_
  rintro e w1 ⟨rfl, hb⟩
  have Z1 := Lib.hid (Z0.out.step hb)
  have a0 := Lib.cell_of_heap Z1.out.2.1 0
  have a1 := Lib.cell_of_heap Z1.out.2.1 1
  clear hb Z0
  go_wp2_with fail
  refine (HRC.out _ Z1.out.1).mono ?_
  rintro e w2 ⟨rfl, hb⟩
  have Z2 := Lib.hid (Z1.out.step hb)
  clear hb a0 a1
  go_wp2_with fail
  refine (known_calls _ (HT.out.below Z2.out.1)).mono ?_
  rintro e w3 ⟨rfl, hb⟩
  have HB3 : Hid (Below w.heap.size w w3) := Z2.out.1.trans (hb.mono Z2.out.1.size)
  clear hb
  go_wp2_with fail
  go_ret
  exact ⟨rfl, HB3.out⟩

theorem codeTurns_walk (f : Int) (A : Option Addr) (n c : Nat) (ls : List Lt) (w : World) (_hf : I64 f) (hL : LS w A n ls) (_hn : n ≤ maxLen) (hI : ∀ l, l ∈ ls → LtAll l) (hz : A = none → c = 0) (_hs : n ≤ c) (hA : ∀ b off, A = some ⟨b, off, none⟩ → b < w.heap.size) (hsp : ∀ a, A = some a → a.spot = none) (hT : ItoaAll w) :
    Calls Tryd.prog 6 #[.agg #[.int .i64 f, .slice A n c]] w fun e w' => e = .returned (.bool true) ∧ Below w.heap.size w w' := by
  by_cases hn : n ≤ 60
  · have hRC : ∀ W, Below w.heap.size w W → Calls Tryd.prog 12 #[.agg #[.int .i64 f, .slice A n c]] W fun e w' => e = .returned (.int .i64 (checkE f ls)) ∧ Below W.heap.size W w' :=
      fun W hW => refCheck_full f A n c ls W (hL.below hW)
    by_cases hv : checkE f ls = 0
    · rw [hv] at hRC
      obtain ⟨L1, L2, L3, L4, hln, h1, k1, h2, k2, h3, k3, h4, k4⟩ := turns_all f A n c ls w hL (fun l hl => (hI l hl).2.2.2.1) hz hsp hA hv
      exact codeTurns_main f A n c L1 L2 L3 L4 w hn hln hRC h1 k1 h2 k2 h3 k3 h4 k4 hT
    · exact codeTurns_bad f A n c (checkE f ls) w hn hv hRC hT
  · exact codeTurns_big f A n c w hn hT

end Go.Proofs.YtjobnldepblciaaDoor
