/-
  The walks of the reference's Reverse, Reduce, Normal.
-/
import Derived.Test.YtenomnkdfiojbaaDoorRefB
namespace Go.Proofs.YtenomnkdfiojbaaDoor
open Go.RowKit

theorem OwnI.some_ {w : World} {B n c : Nat} {A : Option Addr} {xs : List Int} (h : OwnI w B (.slice A n c) xs) (hp : 0 < n) : ∃ g, A = some ⟨g, 0, none⟩ ∧ B ≤ g := by
  obtain ⟨A', c', hv, _, hA⟩ := h.form
  injection hv with e1 e2 e3
  subst e1
  obtain ⟨g, rfl, hg, _⟩ := hA (by omega)
  exact ⟨g, rfl, hg⟩

def RevRel (xs : List Int) (n : Nat) (w : World) (v i : Value) (wr : World) : Prop :=
  ∃ k : Nat, k ≤ n ∧ i = .int .i64 ((k : Int) - 1) ∧ OwnI wr w.heap.size v (xs.drop k).reverse ∧ Below w.heap.size w wr

theorem rev_step {xs : List Int} {k : Nat} {x : Int} (hx : xs[k]? = some x) : (xs.drop k).reverse = (xs.drop (k + 1)).reverse ++ [x] := by
  have hk : k < xs.length := by
    rcases Nat.lt_or_ge k xs.length with q | q
    · exact q
    · rw [List.getElem?_eq_none q] at hx; cases hx
  have hx' : xs[k] = x := by rw [List.getElem?_eq_getElem hk] at hx; injection hx
  rw [List.drop_eq_getElem_cons hk, hx', List.reverse_cons]

set_option maxHeartbeats 1000000 in
set_option maxRecDepth 100000 in
theorem refReverse_calls (A : Option Addr) (n cap : Nat) (xs : List Int) (w : World) (h : SL w A n xs) (hn : n ≤ 1000) :
    Calls Tryd.prog 27 #[.slice A n cap] w (ListPost w xs.reverse n) := by
  have HL := Lib.hid h.1
  go_enter Tryd.func27, Tryd.ntmps27
  go_wp2_with fail
  go_loopw [3, 4] (fun v i wr => RevRel xs n w v i wr) (fun _ i _ => (intOf i + 1).toNat)
  case atStart => exact ⟨n, Nat.le_refl _, rfl, by rw [List.drop_of_length_le (by rw [HL.out]; omega)]; exact World.ownsRow_nil _ _ _ _, Below.refl _ _⟩
  case round =>
    obtain ⟨k, hk, rfl, hown, hb⟩ := hrel
    have HOWN := Lib.hid hown
    have hws := hb.size
    clear hown
    cases k with
    | zero =>
      have hneg : ((0 : Nat) : Int) - 1 < 0 := by omega
      go_wp2_with fail
      go_ret
      refine ListPost.of (by rw [List.length_reverse, HL.out]) ?_ hb
      have := HOWN.out
      rwa [List.drop_zero] at this
    | succ k =>
      have ek : ((k + 1 : Nat) : Int) - 1 = (k : Int) := by omega
      rw [ek]
      obtain ⟨b, off, x, rfl, _, hx, hc⟩ := (h.below hb).at_ (k := k) (by omega)
      have HS := Lib.hid (rev_step hx)
      have hlen : (xs.drop (k + 1)).reverse.length ≤ n := by rw [List.length_reverse, List.length_drop, HL.out]; omega
      have HLEN := Lib.hid hlen
      have hkn : (k : Int) < n := by omega
      clear hx ek hlen
      go_wp2_with (at_builtin; refine wpList_append_ints rfl _ _ rfl w.heap.size _ (xs.drop (k + 1)).reverse rfl (OwnI.below HOWN.out ((Below.refl _ _).alloc (Nat.le_refl _) _)) ⟨wr.heap.size, 0, none⟩ 1 1 [x] rfl ?c0 ?c1 ?c2 ?_)
      case c0 => exact SL.one wr x _
      case c1 => have := HLEN.out; omega
      case c2 => first | omega | (simp; omega)
      intro v' w' hown' hg _
      have hnb := grown_below (hb.alloc hb.size _) (HOWN.out.below ((Below.refl _ _).alloc (Nat.le_refl _) _)) hg
      have HREL : Hid (RevRel xs n w v' (.int .i64 ((k : Int) - 1)) w') := ⟨k, by omega, rfl, by rw [HS.out]; exact hown', hnb⟩
      clear hown' hg hc hnb
      go_wp2_with fail
      go_roundw
      case rel => exact HREL.out
      case measure => first | (simp [intOf]; done) | (simp [intOf]; omega)

/-- What the reference's Reduce leaves: a word without equal neighbors whose least rotation is the normal form. -/
def ReducePost (xs : List Int) (w : World) (e : Ending) (w' : World) : Prop :=
  ∃ A m c l, e = .returned (.slice A m c) ∧ SL w' A m l ∧ m ≤ c ∧ m % 2 = 0 ∧ m ≤ 400 ∧ Ln.cyc l ∧ Ln.normal xs = Ln.least l ∧ (∀ x, x ∈ l → x ∈ xs) ∧ Below w.heap.size w w'
def RedRel (xs : List Int) (w : World) (v : Value) (g : Nat) (wr : World) : Prop :=
  ∃ A m c l, v = .slice A m c ∧ SL wr A m l ∧ m ≤ c ∧ m % 2 = 0 ∧ m ≤ 400 ∧ m ≤ g ∧ Ln.normal l = Ln.normal xs ∧ (∀ x, x ∈ l → x ∈ xs) ∧ Below w.heap.size w wr

theorem getD_getElem? {xs : List Int} {i j : Nat} (hi : i < xs.length) (hj : j < xs.length) : xs.getD i 0 = xs.getD j 0 ↔ xs[i]? = xs[j]? := by
  rw [List.getD_eq_getElem?_getD, List.getD_eq_getElem?_getD, List.getElem?_eq_getElem hi, List.getElem?_eq_getElem hj]
  simp
theorem cyc_of_getD {xs : List Int} (h : ∀ i, i < xs.length → ¬ xs.getD i 0 = xs.getD ((i + 1) % xs.length) 0) : Ln.cyc xs := by
  intro i hi he
  exact h i hi ((getD_getElem? hi (Nat.mod_lt _ (by omega))).2 he)

set_option maxHeartbeats 2000000 in
set_option maxRecDepth 100000 in
theorem refReduce_calls (A : Option Addr) (n cap : Nat) (xs : List Int) (w : World) (h : SL w A n xs) (hcap : A = none → cap = 0) (he : n % 2 = 0) (hn : n ≤ 400) :
    Calls Tryd.prog 48 #[.slice A n cap] w (ReducePost xs w) := by
  have HL := Lib.hid h.1
  go_enter Tryd.func48, Tryd.ntmps48
  cases A with
  | none =>
    have hc0 := hcap rfl
    subst hc0
    have hn0 : n = 0 := by
      rcases Nat.eq_zero_or_pos n with q | q
      · exact q
      · obtain ⟨b, off, hA, _⟩ := h.2 q; cases hA
    subst hn0
    have hx0 : xs = [] := List.eq_nil_of_length_eq_zero h.1
    obtain ⟨i0, hi, _, _, _⟩ := info_parts infoInt
    go_wp2_with (at_builtin; refine wpList_append_own_none rfl _ _ 22 rfl w.heap.size 3 i0 1 Tryd.underlying22 hi (.slice none 0 0) 0 [] rfl (World.ownsRow_nil _ _ _ _) rfl ?_)
    go_loopg [3, 4] 0 (fun g v _ wr => v = .slice none 0 0 ∧ w = wr)
    case atStart => exact ⟨rfl, rfl⟩
    case round =>
      obtain ⟨rfl, rfl⟩ := hrel
      go_wp2_with fail
      go_ret
      exact ⟨none, 0, 0, [], rfl, SL.nil _ _, Nat.le_refl _, rfl, by omega, (fun i hi => by simp at hi), (by rw [hx0]; rfl), (fun x hx => by cases hx), Below.refl _ _⟩
  | some ad =>
    go_wp2_with (at_builtin; refine wpList_append_ints rfl _ _ rfl w.heap.size (.slice none 0 0) [] rfl (World.ownsRow_nil _ _ _ _) ad n cap xs rfl h ?c1 (Nat.le_refl _) ?_)
    case c1 => simp; omega
    intro v1 w1 hown1 hg1 _
    try rw [List.nil_append] at hown1
    have hb1 : Below w.heap.size w w1 := (Below.refl _ _).grown hg1 (Nat.le_refl _) (fun k hk => by cases hk)
    obtain ⟨A1, c1, rfl, hc1, _⟩ := hown1.form
    rw [HL.out] at hc1 hown1 ⊢
    have hsl1 := hown1.sl
    clear hg1 hown1
    go_wp2_with fail
    go_loopg [3, 4] n (fun g v _ wr => RedRel xs w v g wr)
    case atStart => exact ⟨A1, n, c1, xs, rfl, hsl1, hc1, he, hn, Nat.le_refl _, rfl, fun x hx => hx, hb1⟩
    case round =>
      obtain ⟨A2, m, c, l, rfl, hsl, hmc, hme, hm4, hmg, hnorm, hmem, hb⟩ := hrel
      have HSL := Lib.hid hsl
      have HNORM := Lib.hid hnorm
      have HMEM := Lib.hid hmem
      have HME := Lib.hid hme
      have HLL := Lib.hid hsl.1
      clear hsl hnorm hmem hme hsl1
      rcases Nat.eq_zero_or_pos m with hm0 | hmp
      · have HM0 := Lib.hid hm0
        have hmi : (m : Int) ≤ 0 := by omega
        clear hm0
        go_wp2_with fail
        go_ret
        have e := HM0.out
        subst e
        have hl0 : l = [] := List.eq_nil_of_length_eq_zero HLL.out
        refine ⟨A2, 0, c, l, rfl, HSL.out, hmc, rfl, by omega, ?_, ?_, HMEM.out, hb⟩
        · rw [hl0]; intro i hi; simp at hi
        · rw [← HNORM.out, hl0]; rfl
      · have HP := Lib.hid (pair_calls A2 m c l wr HSL.out (by omega))
        have hmi : (0 : Int) < m := by omega
        have hm2 : 2 ≤ m := by have := HME.out; omega
        have hlm : l.length = m := HLL.out
        go_wp2_with (go_at_call 59; refine HP.out.mono ?_)
        rintro e w2 ⟨z, rfl, hz, hb2⟩
        have hbw2 : Below w.heap.size w w2 := hb.trans (hb2.mono hb.size)
        have HLM := Lib.hid hlm
        clear hlm
        rcases hz with ⟨rfl, hz⟩ | ⟨i, rfl, hi, hzi, hzf⟩
        · have HZ := Lib.hid (cyc_of_getD hz)
          clear hz
          go_wp2_with fail
          go_ret
          exact ⟨A2, m, c, l, rfl, HSL.out.below hb2, hmc, HME.out, hm4, HZ.out, by rw [← HNORM.out, Ln.normal_cyc HZ.out], HMEM.out, hbw2⟩
        · rw [HLM.out] at hi
          have hpe : l[i]? = l[(i + 1) % l.length]? := (getD_getElem? (by rw [HLM.out]; exact hi) (Nat.mod_lt _ (by rw [HLM.out]; omega))).1 hzi
          have hfour : i % 2 = 1 → 4 ≤ l.length := by
            intro ho
            rw [HLM.out]
            by_cases q : 4 ≤ m
            · exact q
            · exfalso
              have h2 : m = 2 := by have := HME.out; omega
              have h1 : i = 1 := by omega
              subst h1
              refine hzf 0 (by omega) ?_
              rw [HLM.out, h2] at hzi ⊢
              exact hzi.symm
          have HSTEP := Lib.hid (Ln.normal_stepR l (by rw [HLM.out]; exact HME.out) i (by rw [HLM.out]; exact hi) hpe hfour)
          have HSL3 := Lib.hid (Ln.length_stepR l i (by rw [HLM.out]; exact hm2) hfour)
          have HMS := Lib.hid (fun x (hx : x ∈ Ln.stepR l i) => HMEM.out x (Ln.mem_stepR hx))
          have HFOUR := Lib.hid hfour
          have h0z : (0 : Int) ≤ i := by omega
          clear hzi hzf hpe hfour
          by_cases hev : i % 2 = 0
          · have hi2 : (i : Int) % 2 = 0 := by omega
            have hsr : Hid (Ln.stepR l i = (Ln.rotN i l).drop 2) := by unfold Hid Ln.stepR; rw [if_pos hev]
            have HR := Lib.hid (rotated_calls A2 m c l i w2 (HSL.out.below hb2) hmc hi (by omega))
            clear hev
            go_wp2_with (go_at_call 49; refine HR.out.mono ?_; rintro e w3 ⟨A3, c3, rfl, hown3, hc3, hb3⟩; obtain ⟨g, rfl, _⟩ := hown3.some_ hmp; have hs3 := Lib.hid (hown3.sl.off (k := 2) hm2); have hbw3 := hbw2.trans (hb3.mono hbw2.size))
            all_goals
              go_roundg (gk - 2)
              case measure => omega
              case rel =>
                refine ⟨_, m - 2, _, Ln.stepR l i, rfl, ?_, by omega, by have := HME.out; omega, by omega, by omega, by rw [HSTEP.out, HNORM.out], HMS.out, hbw3⟩
                rw [hsr.out]
                first | exact hs3.out | exact ⟨hs3.out.1, fun hn0 => absurd hn0 (by omega)⟩
          · obtain ⟨j, rfl⟩ : ∃ j, i = j + 1 := ⟨i - 1, by omega⟩
            have hi2 : ((j : Int) + 1) % 2 = 1 := by omega
            have hm4' : 4 ≤ m := by have := HFOUR.out (by omega); rw [HLM.out] at this; exact this
            have hsr : Hid (Ln.stepR l (j + 1) = (Ln.rotN j l).take 1 ++ (Ln.rotN j l).drop 3) := by unfold Hid Ln.stepR; rw [if_neg hev]; rfl
            have HR := Lib.hid (rotated_calls A2 m c l j w2 (HSL.out.below hb2) hmc (by omega) (by omega))
            have hll : (Ln.rotN j l).length = m := by rw [Ln.length_rotN, HLM.out]
            have hb1k : ((Ln.rotN j l).take 1).length + (m - 3) ≤ 1000000 := by rw [List.length_take, hll]; omega
            have HB1K := Lib.hid hb1k
            have HLL2 := Lib.hid hll
            clear hev hll hb1k
            go_wp2_with fail
            refine HR.out.mono ?_
            rintro e w3 ⟨A3, c3, rfl, hown3, hc3, hb3⟩
            obtain ⟨g, rfl, hgg⟩ := hown3.some_ hmp
            have hbw3 := hbw2.trans (hb3.mono hbw2.size)
            have hown3' := Lib.hid (hown3.mono hbw2.size)
            have hne1 : (1 : Nat) ≤ c3 := by omega
            have hne3 : ¬ c3 = 3 := by omega
            have hm3 : (3 : Nat) ≤ m := by omega
            have hm1 : (1 : Nat) ≤ m := by omega
            have hm3i : (3 : Int) ≤ m := by omega
            have hc1i : (1 : Int) ≤ c3 := by omega
            clear hown3
            go_wp2_with fail
            have ht1 : Hid (OwnI w3.drew w.heap.size (.slice (some ⟨g, 0, none⟩) 1 c3) ((Ln.rotN j l).take 1)) := hown3'.out.take (by omega)
            have hs1 : Hid (SL w3.drew (some ⟨g, 3, none⟩) (m - 3) ((Ln.rotN j l).drop 3)) := hown3'.out.sl.off (k := 3) (by omega)
            have hsz3 : w.heap.size ≤ w3.drew.heap.size := hbw3.size
            go_region_law (first
              | ((with_reducible refine step_append_ints rfl _ _ rfl w.heap.size (.slice (some ⟨g, 0, none⟩) 1 c3) ((Ln.rotN j l).take 1) rfl ht1.out ⟨g, 3, none⟩ (m - 3) (c3 - 3) ((Ln.rotN j l).drop 3) rfl hs1.out HB1K.out hsz3 ?_); intro v4 w4 hown4 hg4; have hb4 := (hbw3.drew).grown hg4 hsz3 (fun k hk => (ht1.out.lt k hk).1)))
            all_goals go_wp2_with fail
            all_goals
              obtain ⟨A4, c4, rfl, hc4, _⟩ := hown4.form
              have hl4 : ((Ln.rotN j l).take 1 ++ (Ln.rotN j l).drop 3).length = m - 2 := by rw [← hsr.out, HSL3.out, HLM.out]
              rw [hl4] at hown4 hc4 ⊢
              go_roundg (gk - 2)
              case measure => omega
              case rel =>
                exact ⟨_, m - 2, _, Ln.stepR l (j + 1), rfl, by rw [hsr.out]; exact hown4.sl, hc4, by have := HME.out; omega, by omega, by omega, by rw [HSTEP.out, HNORM.out], HMS.out, hb4⟩

end Go.Proofs.YtenomnkdfiojbaaDoor
