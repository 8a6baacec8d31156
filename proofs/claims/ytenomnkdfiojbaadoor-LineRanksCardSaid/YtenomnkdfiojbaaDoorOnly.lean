/-
  The walk of line.onlyRanks.
-/
import Derived.Test.YtenomnkdfiojbaaDoorOrder
import Derived.Test.YtenomnkdfiojbaaDoorForget
import Derived.Deep.LoopGhost
namespace Go.Proofs.YtenomnkdfiojbaaDoor
open Go.RowKit

/-- The ranks behind the first q letters before the letter p; none where two strands never part. -/
def innerM (xs : List Int) (p : Nat) : Nat → List Int → Option (List Int)
  | 0, r => some r
  | q + 1, r => (innerM xs p q r).bind fun r' =>
    if xs.getD p 0 = xs.getD q 0 then
      (if orderM xs p q = -1 then some (r'.set q (r'.getD q 0 + 1)) else if orderM xs p q = 1 then some (r'.set p (r'.getD p 0 + 1)) else none)
    else some r'
def outerM (xs : List Int) : Nat → Option (List Int)
  | 0 => some (List.replicate xs.length 0)
  | p + 1 => (outerM xs p).bind fun r => innerM xs p p (r.set p (r.getD p 0 + 1))

theorem innerM_none {xs : List Int} {p : Nat} {r : List Int} {q : Nat} (h : innerM xs p q r = none) : ∀ q', q ≤ q' → innerM xs p q' r = none := by
  intro q' hq
  induction q' with
  | zero => obtain rfl : q = 0 := by omega
            exact h
  | succ q' ih =>
    by_cases e : q = q' + 1
    · subst e; exact h
    · rw [innerM, ih (by omega)]; rfl
theorem outerM_none {xs : List Int} {p : Nat} (h : outerM xs p = none) : ∀ p', p ≤ p' → outerM xs p' = none := by
  intro p' hp
  induction p' with
  | zero => obtain rfl : p = 0 := by omega
            exact h
  | succ p' ih =>
    by_cases e : p = p' + 1
    · subst e; exact h
    · rw [outerM, ih (by omega)]; rfl

/-- All ranks lie in these bounds. -/
def Bd (n : Nat) (M : Int) (r : List Int) : Prop := r.length = n ∧ ∀ x, x ∈ r → 0 ≤ x ∧ x ≤ M
theorem Bd.getD {n : Nat} {M : Int} {r : List Int} (h : Bd n M r) (hM : 0 ≤ M) (i : Nat) : 0 ≤ r.getD i 0 ∧ r.getD i 0 ≤ M := by
  rw [List.getD_eq_getElem?_getD]
  cases e : r[i]? with
  | none => exact ⟨Int.le_refl _, hM⟩
  | some x => exact h.2 x (List.mem_of_getElem? e)
theorem Bd.set {n : Nat} {M : Int} {r : List Int} (h : Bd n M r) (hM : 0 ≤ M) (i : Nat) : Bd n (M + 1) (r.set i (r.getD i 0 + 1)) := by
  refine ⟨by rw [List.length_set]; exact h.1, fun x hx => ?_⟩
  have hg := h.getD hM i
  rcases List.mem_or_eq_of_mem_set hx with hx | hx
  · have := h.2 x hx; omega
  · subst hx; omega
theorem Bd.mono {n : Nat} {M M' : Int} {r : List Int} (h : Bd n M r) (hM : M ≤ M') : Bd n M' r := ⟨h.1, fun x hx => by have := h.2 x hx; omega⟩
theorem innerM_bd {xs : List Int} {p n : Nat} {M : Int} {r0 : List Int} (h0 : Bd n M r0) (hM : 0 ≤ M) : ∀ (q : Nat) (r : List Int), innerM xs p q r0 = some r → Bd n (M + q) r := by
  intro q
  induction q with
  | zero => intro r h; rw [innerM] at h; injection h with h; subst h; simpa using h0
  | succ q ih =>
    intro r h
    rw [innerM] at h
    cases e : innerM xs p q r0 with
    | none => rw [e] at h; cases h
    | some r' =>
      rw [e] at h
      have hb := ih r' e
      simp only [Option.bind_some] at h
      have en : M + ((q + 1 : Nat) : Int) = M + q + 1 := by omega
      rw [en]
      split at h
      · split at h
        · injection h with h; subst h; exact hb.set (by omega) _
        · split at h
          · injection h with h; subst h; exact hb.set (by omega) _
          · cases h
      · injection h with h; subst h; exact hb.mono (by omega)
theorem outerM_bd {xs : List Int} {n : Nat} (hl : xs.length = n) : ∀ (p : Nat) (r : List Int), p ≤ 400 → outerM xs p = some r → Bd n (401 * (p : Int)) r := by
  intro p
  induction p with
  | zero =>
    intro r _ h
    rw [outerM] at h
    injection h with h
    subst h
    exact ⟨by simp [hl], fun x hx => by rw [List.eq_of_mem_replicate hx]; omega⟩
  | succ p ih =>
    intro r hp h
    rw [outerM] at h
    cases e : outerM xs p with
    | none => rw [e] at h; cases h
    | some r' =>
      rw [e] at h
      simp only [Option.bind_some] at h
      have hb := (ih r' (by omega) e).set (by omega) p
      exact (innerM_bd hb (by omega) p r h).mono (by omega)

def OutRel (xs : List Int) (n g : Nat) (w : World) (gk : Nat) (i : Value) (wr : World) : Prop :=
  ∃ (p : Nat) (r : List Int), p + gk = n ∧ i = .int .i64 p ∧ outerM xs p = some r ∧ OwnI wr w.heap.size (.slice (some ⟨g, 0, none⟩) n n) r ∧ Below w.heap.size w wr
def InRel (xs : List Int) (n p g : Nat) (r0 : List Int) (w : World) (gk : Nat) (i : Value) (wr : World) : Prop :=
  ∃ (q : Nat) (r : List Int), q + gk = p ∧ i = .int .i64 q ∧ innerM xs p q r0 = some r ∧ OwnI wr w.heap.size (.slice (some ⟨g, 0, none⟩) n n) r ∧ Below w.heap.size w wr
/-- What onlyRanks leaves. -/
def OnlyPost (xs : List Int) (n : Nat) (w : World) (e : Ending) (w' : World) : Prop :=
  ∃ A c r, e = .returned (.tuple #[.slice A n c, .bool (outerM xs n).isSome]) ∧ OwnI w' w.heap.size (.slice A n c) r ∧ (∀ r', outerM xs n = some r' → r = r') ∧ n ≤ c ∧ Below w.heap.size w w'

theorem OwnI.drewN {w : World} {B : Nat} {v : Value} {xs : List Int} (h : OwnI w B v xs) (k : Nat) : OwnI (w.drewN k) B v xs := h

set_option maxHeartbeats 1000000 in
set_option maxRecDepth 100000 in
theorem onlyRanks_calls (A : Option Addr) (n cap : Nat) (xs : List Int) (w : World) (h : SL w A n xs) (hn : n ≤ 400) (hr : ∀ x, x ∈ xs → 0 ≤ x ∧ x ≤ 40) :
    Calls Tryd.prog 56 #[.slice A n cap] w (OnlyPost xs n w) := by
  have HL := Lib.hid h.1
  have HR := Lib.hid hr
  clear hr
  go_enter Tryd.func56, Tryd.ntmps56
  go_wp2_with fail
  go_step3
  go_wp2_with (at_make; refine wpList_make_ints rfl _ _ rfl n rfl rfl (by omega) ?_; intro w1 hown1 hb1)
  go_step3
  go_wp2_with fail
  go_loopg [5, 13] n (fun g v i wr => v = .bool true ∧ OutRel xs n w.heap.size w g i wr)
  case atStart => exact ⟨rfl, 0, _, Nat.zero_add _, rfl, by rw [outerM, HL.out], hown1, hb1⟩
  case round =>
    obtain ⟨rfl, p, r, hp, rfl, hM, hown, hb⟩ := hrel
    obtain ⟨wo, hwo⟩ : ∃ wo : World, wo = wr := ⟨_, rfl⟩
    obtain rfl := hwo
    have HM := Lib.hid hM
    have HOWN := Lib.hid hown
    have HP := Lib.hid hp
    clear hown1 hown hM hp
    cases gk with
    | zero =>
      have hge : ¬ p < n := by have := HP.out; omega
      have hpn : p = n := by have := HP.out; omega
      have HPN := Lib.hid hpn
      have hge2 : (n : Int) ≤ (p : Int) := by omega
      clear hpn hge
      go_wp2_with fail
      try rw [Exit.noGoto_ret]
      go_ret2
      have e := HPN.out
      subst e
      exact ⟨_, _, r, by rw [HM.out]; rfl, HOWN.out, (fun r' h' => by rw [HM.out] at h'; injection h'), Nat.le_refl _, hb⟩
    | succ g =>
      have hlt : p < n := by have := HP.out; omega
      have hlti : (p : Int) < (n : Int) := by omega
      have hbd := outerM_bd HL.out p r (by omega) HM.out
      have HBD := Lib.hid hbd
      obtain ⟨y, hy, hyc, hyf, hyg⟩ := HOWN.out.cell (k := p) hlt
      have hyb := hbd.2 y (List.mem_of_getElem? hy)
      have hyd : r.getD p 0 = y := by rw [List.getD_eq_getElem?_getD, hy]; rfl
      have HYD := Lib.hid hyd
      obtain ⟨hy0, hy1⟩ := hyb
      have h1 := HOWN.out.set hlt (y + 1)
      rw [← hyd] at h1
      have hb1 := hb.setCell (p := ⟨w.heap.size, p, none⟩) hyg (.int .i64 (r.getD p 0 + 1))
      have hbd1 := hbd.set (by omega) p
      rw [hyd] at h1 hb1
      obtain ⟨r0, hr0⟩ : ∃ r0, r.set p (y + 1) = r0 := ⟨_, rfl⟩
      rw [hyd] at hbd1
      rw [hr0] at h1 hbd1
      have hnext : ∀ q : Option (List Int), innerM xs p p r0 = q → outerM xs (p + 1) = q := by
        intro q hq
        rw [outerM, HM.out]
        show innerM xs p p (r.set p (r.getD p 0 + 1)) = q
        rw [HYD.out, hr0]; exact hq
      have HNEXT := Lib.hid hnext
      have H1 := Lib.hid h1
      have HB1 := Lib.hid hb1
      have HBD1 := Lib.hid hbd1
      clear hbd hy hyd h1 hb1 hbd1 hr0 hnext
      go_wp2_with fail
      go_loopg [5, 23] p (fun g2 v i wr => v = .bool true ∧ InRel xs n p w.heap.size r0 w g2 i wr)
      case atStart => exact ⟨rfl, 0, r0, Nat.zero_add _, rfl, rfl, H1.out, HB1.out⟩
      case round =>
        obtain ⟨rfl, q, r2, hq, rfl, hM2, hown2, hb2⟩ := hrel
        have HM2 := Lib.hid hM2
        have HOWN2 := Lib.hid hown2
        have HQ := Lib.hid hq
        clear hown2 hM2 hq hyc hyf
        cases gk with
        | zero =>
          have hqp : q = p := by have := HQ.out; omega
          have HPN := Lib.hid hqp
          have hge2 : (p : Int) ≤ (q : Int) := by omega
          clear hqp
          go_wp2_with fail
          go_roundg g
          case measure => omega
          case rel =>
            have e := HPN.out
            subst e
            exact ⟨rfl, q + 1, r2, by have := HP.out; omega, by rw [Int.natCast_add]; rfl, HNEXT.out _ HM2.out, HOWN2.out, hb2⟩
        | succ g2 =>
          have hqp : q < p := by have := HQ.out; omega
          have hqpi : (q : Int) < (p : Int) := by omega
          have hqn : q < n := by omega
          have hqni : (q : Int) < (n : Int) := by omega
          obtain ⟨b, off, xp, rfl, hbb, hxp, hcp⟩ := (h.below hb2).at_ hlt
          obtain ⟨b', off', xq, hA', _, hxq, hcq⟩ := (h.below hb2).at_ hqn
          obtain ⟨rfl, rfl⟩ : b = b' ∧ off = off' := by injection hA' with hA'; injection hA' with e1 e2; exact ⟨e1, e2⟩
          have hgp : xs.getD p 0 = xp := by rw [List.getD_eq_getElem?_getD, hxp]; rfl
          have hgq : xs.getD q 0 = xq := by rw [List.getD_eq_getElem?_getD, hxq]; rfl
          have hstep : innerM xs p (q + 1) r0 = if xp = xq then (if orderM xs p q = -1 then some (r2.set q (r2.getD q 0 + 1)) else if orderM xs p q = 1 then some (r2.set p (r2.getD p 0 + 1)) else none) else some r2 := by
            rw [innerM, HM2.out, Option.bind_some, hgp, hgq]
          have HSTEP := Lib.hid hstep
          clear hxp hxq hA' hgp hgq hstep
          by_cases hxx : xp = xq
          · have hs2 := HSTEP.out
            rw [if_pos hxx] at hs2
            have HS2 := Lib.hid hs2
            subst hxx
            have HO := Lib.hid (fun N => order_calls (some ⟨b, off, none⟩) n cap xs p q (wr.drewN N) ((h.below hb2).drewN N) hn hlt hqn HR.out)
            have hbd2 := innerM_bd HBD1.out (by omega) q r2 HM2.out
            obtain ⟨yq, hyq, hyqc, hyqf, hyqg⟩ := HOWN2.out.cell (k := q) hqn
            obtain ⟨yp, hyp, hypc, hypf, hypg⟩ := HOWN2.out.cell (k := p) hlt
            have hyqb := hbd2.2 yq (List.mem_of_getElem? hyq)
            have hypb := hbd2.2 yp (List.mem_of_getElem? hyp)
            have hyqd : r2.getD q 0 = yq := by rw [List.getD_eq_getElem?_getD, hyq]; rfl
            have hypd : r2.getD p 0 = yp := by rw [List.getD_eq_getElem?_getD, hyp]; rfl
            have hg_lt : w.heap.size < wr.heap.size := World.block_lt_of_cell? wr _ hyqc
            obtain ⟨yq0, yq1⟩ := hyqb
            obtain ⟨yp0, yp1⟩ := hypb
            have hsz2 := hb2.size
            rw [hyqd, hypd] at HS2
            clear hs2 hyq hyp hyqd hypd hbd2
            obtain ⟨z, hz⟩ : ∃ z, orderM xs p q = z := ⟨_, rfl⟩
            rw [hz] at HS2
            have HZ := Lib.hid hz
            clear hz
            by_cases hz1 : z = -1
            · have hzb : (z == -1) = true := by rw [beq_iff_eq]; exact hz1
              have hs3 := HS2.out
              rw [if_pos hz1] at hs3
              have HS3 := Lib.hid hs3
              clear hs3 hz1
              go_wp2_with fail
              go_quiet (fail)
              go_wp2_with (go_at_call 73; refine (HO.out _).mono ?_; rw [HZ.out]; rintro e w3 ⟨rfl, hb3⟩; have hcell3 := (hb3.cell (p := ⟨w.heap.size, q, none⟩) hg_lt).trans hyqc; have hfr3 := (hb3.frozen (p := ⟨w.heap.size, q, none⟩) hg_lt).trans hyqf)
              go_roundg g2
              case measure => omega
              case rel => exact ⟨rfl, q + 1, _, by have := HQ.out; omega, by rw [Int.natCast_add]; rfl, HS3.out, ((HOWN2.out.drewN _).below hb3).set hqn _, ((below_drewN hb2 _).trans (hb3.mono hsz2)).setCell (p := ⟨w.heap.size, q, none⟩) (Nat.le_refl _) _⟩
            · have hzb : (z == -1) = false := by rw [beq_eq_false_iff_ne]; exact hz1
              have hs3 := HS2.out
              rw [if_neg hz1] at hs3
              clear hz1
              by_cases hz2 : z = 1
              · have hzb2 : (z == 1) = true := by rw [beq_iff_eq]; exact hz2
                rw [if_pos hz2] at hs3
                have HS3 := Lib.hid hs3
                clear hs3 hz2
                go_wp2_with fail
                go_quiet (fail)
                go_wp2_with (go_at_call 73; refine (HO.out _).mono ?_; rw [HZ.out]; rintro e w3 ⟨rfl, hb3⟩; have hcell3 := (hb3.cell (p := ⟨w.heap.size, p, none⟩) hg_lt).trans hypc; have hfr3 := (hb3.frozen (p := ⟨w.heap.size, p, none⟩) hg_lt).trans hypf)
                go_roundg g2
                case measure => omega
                case rel => exact ⟨rfl, q + 1, _, by have := HQ.out; omega, by rw [Int.natCast_add]; rfl, HS3.out, ((HOWN2.out.drewN _).below hb3).set hlt _, ((below_drewN hb2 _).trans (hb3.mono hsz2)).setCell (p := ⟨w.heap.size, p, none⟩) (Nat.le_refl _) _⟩
              · have hzb2 : (z == 1) = false := by rw [beq_eq_false_iff_ne]; exact hz2
                rw [if_neg hz2] at hs3
                have hnone : Hid (outerM xs n = none) := outerM_none (HNEXT.out _ (innerM_none hs3 p (by omega))) n (by omega)
                clear hs3 hz2
                go_wp2_with fail
                go_quiet (fail)
                go_wp2_with (go_at_call 73; refine (HO.out _).mono ?_; rw [HZ.out]; rintro e w3 ⟨rfl, hb3⟩)
                try rw [Exit.noGoto_ret]
                go_ret2
                exact ⟨_, _, r2, by rw [hnone.out]; rfl, (HOWN2.out.drewN _).below hb3, (fun r' h' => by rw [hnone.out] at h'; cases h'), Nat.le_refl _, (below_drewN hb2 _).trans (hb3.mono hsz2)⟩
          · have hne : (xp != xq) = true := by rw [bne_iff_ne]; exact hxx
            have hs2 := HSTEP.out
            rw [if_neg hxx] at hs2
            have HS2 := Lib.hid hs2
            clear hs2 hxx
            go_wp2_with fail
            go_quiet (fail)
            go_wp2_with fail
            go_roundg g2
            case measure => omega
            case rel => exact ⟨rfl, q + 1, r2, by have := HQ.out; omega, by rw [Int.natCast_add]; rfl, HS2.out, HOWN2.out, below_drewN hb2 _⟩

/-- line.Ranks of a reduced word whose strands don't all part: there are none. -/
theorem ranks_none (A : Option Addr) (n cap : Nat) (xs : List Int) (w : World) (h : SL w A n xs) (hv : reducedB xs = true) (hn : n ≤ 400) (ho : outerM xs n = none) :
    Calls Tryd.prog 38 #[.slice A n cap] w (ErrPost w 8 []) := by
  have hv1 : validB 40 xs = true := by unfold reducedB at hv; simp only [Bool.and_eq_true] at hv; exact hv.1
  have hm : n ≤ maxLen := by unfold maxLen; omega
  have HC := Lib.hid (check_calls 40 A n cap xs w h hm)
  have HE := Lib.hid (errB_of_valid hv1)
  have HV := Lib.hid hv
  have HR := Lib.hid (reduced_calls A n cap xs w h hm)
  have HO := Lib.hid (onlyRanks_calls A n cap xs w h hn (fun x hx => validB_range hv1 hx))
  have HN := Lib.hid ho
  clear hv hv1 ho
  go_enter Tryd.func38, Tryd.ntmps38
  go_wp2_with (first
    | (go_at_call 44; refine HC.out.mono ?_; rw [HE.out]; rintro e w' ⟨rfl, rfl⟩)
    | (go_at_call 22; refine HR.out.mono ?_; rw [HV.out]; rintro e w' ⟨rfl, rfl⟩)
    | (go_at_call 56; refine HO.out.mono ?_; rintro e w1 ⟨A1, c1, r, rfl, hown, _, hc, hb⟩; rw [HN.out]))
  go_ret2
  exact ErrPost.err (by decide) hb

end Go.Proofs.YtenomnkdfiojbaaDoor
