/-
  The walk of the reference's search for ranks.
-/
import Derived.Test.YtenomnkdfiojbaaDoorRanks
import Derived.Laws.AppendOwnNone
namespace Go.Proofs.YtenomnkdfiojbaaDoor
open Go.RowKit

/-- What the search answers: ranks that continue the list, or none do. -/
def TryPost (xs : List Int) (n : Nat) (pre : List Int) (w : World) (e : Ending) (w' : World) : Prop :=
  ∃ A m c b, e = .returned (.tuple #[.slice A m c, .bool b]) ∧ Below w.heap.size w w' ∧ (b = true → ∃ R, m = n ∧ SL w' A n R ∧ DrawnR xs R n) ∧ (b = false → ∀ R, DrawnR xs R n → ¬ pre <+: R)
theorem TryPost.yes {xs pre R : List Int} {n c : Nat} {A : Option Addr} {w w' : World} (hb : Below w.heap.size w w') (hs : SL w' A n R) (hd : DrawnR xs R n) : TryPost xs n pre w (.returned (.tuple #[.slice A n c, .bool true])) w' :=
  ⟨A, n, c, true, rfl, hb, fun _ => ⟨R, rfl, hs, hd⟩, fun h => absurd h (by decide)⟩
theorem TryPost.no {xs pre : List Int} {n m c : Nat} {A : Option Addr} {w w' : World} (hb : Below w.heap.size w w') (h : ∀ R, DrawnR xs R n → ¬ pre <+: R) : TryPost xs n pre w (.returned (.tuple #[.slice A m c, .bool false])) w' :=
  ⟨A, m, c, false, rfl, hb, fun h => absurd h (by decide), fun _ => h⟩

theorem prefix_next {pre R : List Int} {n : Nat} (h : pre <+: R) (hl : R.length = n) (hi : pre.length < n) : pre ++ [gt R pre.length] <+: R := by
  obtain ⟨t, rfl⟩ := h
  cases t with
  | nil => simp at hl; omega
  | cons v t =>
    have : gt (pre ++ v :: t) pre.length = v := by
      unfold gt
      rw [List.getD_eq_getElem?_getD, List.getElem?_append_right (Nat.le_refl _), Nat.sub_self]
      rfl
    rw [this]
    exact ⟨t, by simp⟩
theorem prefix_gt {pre R : List Int} (h : pre <+: R) {a : Nat} (ha : a < pre.length) : gt R a = gt pre a := by
  obtain ⟨t, rfl⟩ := h
  unfold gt
  rw [List.getD_eq_getElem?_getD, List.getD_eq_getElem?_getD, List.getElem?_append_left ha]

/-- A rank is free for a letter. -/
def freeB (xs pre : List Int) (i : Nat) (r : Int) (j : Nat) : Bool := (List.range j).all fun a => !(decide (gt xs a = gt xs i) && decide (gt pre a = r))
theorem freeB_succ {xs pre : List Int} {i j : Nat} {r x y u : Int} (hx : xs[j]? = some x) (hy : xs[i]? = some y) (hu : pre[j]? = some u) : freeB xs pre i r (j + 1) = (freeB xs pre i r j && !(decide (x = y) && decide (u = r))) := by
  unfold freeB gt
  rw [List.range_succ, List.all_append]
  simp only [List.all_cons, List.all_nil, Bool.and_true, List.getD_eq_getElem?_getD, hx, hy, hu, Option.getD_some]
theorem not_free {xs pre : List Int} {i n : Nat} {r : Int} (hl : pre.length = i) (hi : i < n) (h : freeB xs pre i r i = false) : ∀ R, DrawnR xs R n → ¬ (pre ++ [r]) <+: R := by
  intro R hD hp
  unfold freeB at h
  rw [List.all_eq_false] at h
  obtain ⟨a, ha, h⟩ := h
  rw [List.mem_range] at ha
  simp only [Bool.not_eq_true, Bool.not_eq_false', Bool.and_eq_true, decide_eq_true_eq] at h
  obtain ⟨h1, h2⟩ := h
  have e1 := prefix_gt hp (a := a) (by simp; omega)
  have e2 := prefix_gt hp (a := i) (by simp; omega)
  have e3 : gt (pre ++ [r]) i = r := by
    unfold gt
    rw [List.getD_eq_getElem?_getD, List.getElem?_append_right (by omega), hl, Nat.sub_self]
    rfl
  have e4 : gt (pre ++ [r]) a = gt pre a := by
    unfold gt
    rw [List.getD_eq_getElem?_getD, List.getD_eq_getElem?_getD, List.getElem?_append_left (by omega)]
  have hok := hD.2.1 i hi
  have := (same_one hi).1 hok.2.2 a (by omega) h1 (by rw [e1, e2, e3, e4, h2])
  omega

/-- Nothing appended. -/
theorem wpList_append_none {w : World} {ops : Array Oper} {rest : List Oper} {o : Oper} {a : Act} {Q : Exit → Act → World → Prop} (hgd : o.guard = none) (s x : Operand)
    (ho : o.op = .call { callee := .builtin .append, args := #[s, x], argTypes := #[22, 22] })
    (B : Nat) (v : Value) (xs : List Int) (hs : a.eval s = v) (hown : OwnI w B v xs) (hx : a.eval x = .slice none 0 0) (h : wpList Tryd.prog ops Q rest (a.put o.dst v) w) :
    wpList Tryd.prog ops Q (o :: rest) a w :=
  wpList_plain hgd fun K hK => by
    obtain ⟨i0, hi, hz0, hz1, hz2⟩ := info_parts infoInt
    have hr := run_append_owned_none (P := Tryd.prog) (w := w) B 22 o.type 3 i0 1 Tryd.underlying22 hi v xs.length (xs.map (Value.int .i64)) hown
    unfold Oper.wp execOp
    simp only [ho, resolve, invoke, builtin, Sem.run_bind, Sem.run_pure, Result.andThen_ok, List.map_toArray, List.map_cons, List.map_nil, hs, hx, hr]
    exact hK _ _ h

def ManyRel (xs : List Int) (n i : Nat) (w : World) (m j : Value) (wr : World) : Prop :=
  ∃ k : Nat, k ≤ n ∧ j = .int .i64 k ∧ m = .int .i64 (manyC xs i k) ∧ Drew w wr
def RankRel (xs pre : List Int) (n : Nat) (mc : Int) (w : World) (r : Value) (wr : World) : Prop :=
  ∃ k : Nat, (k : Int) ≤ mc ∧ r = .int .i64 ((k : Int) + 1) ∧ (∀ v : Int, 1 ≤ v → v ≤ k → ∀ R, DrawnR xs R n → ¬ (pre ++ [v]) <+: R) ∧ Below w.heap.size w wr
def FreeRel (xs pre : List Int) (i : Nat) (r : Int) (w : World) (f j : Value) (wr : World) : Prop :=
  ∃ k : Nat, k ≤ i ∧ j = .int .i64 k ∧ f = .bool (freeB xs pre i r k) ∧ Drew w wr

set_option maxHeartbeats 4000000 in
set_option maxRecDepth 100000 in
theorem try_calls (A : Option Addr) (n cap : Nat) (xs : List Int) (hn : n ≤ 400) : ∀ (rem : Nat) (pre : List Int) (i : Nat) (A2 : Option Addr) (c2 : Nat) (w : World), SL w A n xs → SL w A2 i pre → (i = 0 → A2 = none ∧ c2 = 0) → i + rem = n →
    Calls Tryd.prog 60 #[.slice A n cap, .slice A2 i c2] w (TryPost xs n pre w)
  | 0, pre, i, A2, c2, w, h1, h2, _, hin => by
    obtain rfl : i = n := by omega
    have HL2 := Lib.hid h2.1
    have H2 := Lib.hid h2
    have HD0 := Lib.hid (drawnR_calls A A2 i i cap c2 xs pre w h1 h2 hn (by omega))
    clear h1 h2
    go_enter Tryd.func60, Tryd.ntmps60
    go_wp2_with fail
    refine HD0.out.mono ?_
    rintro e w1 ⟨bb, rfl, hbb, hd⟩
    have HDR : Hid (Drew w w1) := hd
    have HBB := Lib.hid hbb
    clear hbb hd
    cases bb
    · go_wp2_with fail
      go_ret2
      refine TryPost.no HDR.out.below fun R hD hp => ?_
      have hn2 : ¬ DrawnR xs pre i := fun D => absurd (HBB.out.2 D) (by decide)
      obtain ⟨t, ht⟩ := hp
      have : t = [] := List.eq_nil_of_length_eq_zero (by
        have h1 := hD.1
        have h3 := HL2.out
        rw [← ht, List.length_append] at h1
        omega)
      subst this
      rw [List.append_nil] at ht
      subst ht
      exact hn2 hD
    · go_wp2_with fail
      go_ret2
      exact TryPost.yes HDR.out.below (HDR.out.sl H2.out) (HBB.out.1 (by trivial))
  | rem + 1, pre, i, A2, c2, w, h1, h2, hA2, hin => by
    have hlt : i < n := by omega
    have hne : ¬ (i : Int) = (n : Int) := by omega
    have hbe : ((i : Int) == (n : Int)) = false := by rw [beq_eq_false_iff_ne]; exact hne
    have HL := Lib.hid h1.1
    have HL2 := Lib.hid h2.1
    have hi1 : (i : Int) < n := by omega
    obtain ⟨y, hy⟩ : ∃ y, xs[i]? = some y := ⟨_, List.getElem?_eq_getElem (by rw [HL.out]; exact hlt)⟩
    have HY := Lib.hid hy
    have HIH := Lib.hid (fun (pre' : List Int) (A' : Option Addr) (c' : Nat) (w' : World) => try_calls A n cap xs hn rem pre' (i + 1) A' c' w')
    clear hy hne
    go_enter Tryd.func60, Tryd.ntmps60
    go_wp2_with fail
    go_loopw [7, 8] (fun mv jv wr => ManyRel xs n i w mv jv wr) (fun _ jv _ => n - (intOf jv).toNat)
    case atStart => exact ⟨0, Nat.zero_le _, rfl, rfl, Drew.refl _⟩
    case round =>
      obtain ⟨j, hj, rfl, rfl, hd⟩ := hrel
      have HD := Lib.hid hd
      have m0 := cnt_nonneg (fun j => decide (gt xs j = gt xs i)) j
      have m1 := cnt_le (fun j => decide (gt xs j = gt xs i)) j
      obtain ⟨mc, hmc⟩ : ∃ mc, manyC xs i j = mc := ⟨_, rfl⟩
      have m0' : 0 ≤ mc := by rw [← hmc]; exact m0
      have m1' : mc ≤ j := by rw [← hmc]; exact m1
      rw [hmc]
      clear m0 m1 hd
      by_cases hjl : j < n
      · obtain ⟨b, off, x, rfl, _, hx, hcx⟩ := (HD.out.sl h1).at_ hjl
        obtain ⟨b', off', y', hA, _, hy', hcy⟩ := (HD.out.sl h1).at_ hlt
        obtain ⟨rfl, rfl⟩ : b = b' ∧ off = off' := by injection hA with hA; injection hA with e1 e2; exact ⟨e1, e2⟩
        obtain rfl : y = y' := by have := HY.out; rw [hy'] at this; injection this with this; exact this.symm
        have hj1 : (j : Int) < n := by omega
        have HM := Lib.hid (manyC_succ hx HY.out)
        rw [hmc] at HM
        clear hx hy' hA hmc
        by_cases hxy : x = y
        · have e1 : (x == y) = true := by rw [beq_iff_eq]; exact hxy
          have HXY := Lib.hid hxy
          clear hxy
          go_wp2_with fail
          go_quiet (fail)
          go_wp2_with fail
          go_roundw
          case rel => exact ⟨j + 1, by omega, by rw [Int.natCast_add]; rfl, by rw [HM.out, if_pos HXY.out], HD.out.trans ⟨_, rfl⟩⟩
          case measure => simp [intOf]; omega
        · have e1 : (x == y) = false := by rw [beq_eq_false_iff_ne]; exact hxy
          have HXY := Lib.hid hxy
          clear hxy
          go_wp2_with fail
          go_quiet (fail)
          go_wp2_with fail
          go_roundw
          case rel => exact ⟨j + 1, by omega, by rw [Int.natCast_add]; rfl, by rw [HM.out, if_neg HXY.out, Int.add_zero], HD.out.trans ⟨_, rfl⟩⟩
          case measure => simp [intOf]; omega
      · obtain rfl : j = n := by omega
        have HMC := Lib.hid hmc
        clear hmc
        have HB0 := Lib.hid HD.out.below
        go_wp2_with fail
        go_loopw [9] (fun rv wr => RankRel xs pre j mc w rv wr) (fun rv _ => mc.toNat + 1 - (intOf rv).toNat)
        case atStart => exact ⟨0, m0', rfl, fun v h1 h2 => by omega, HB0.out⟩
        case round =>
          obtain ⟨k, hk, rfl, hno, hb⟩ := hrel
          have HNO := Lib.hid hno
          have HB := Lib.hid hb
          clear hno hb
          by_cases hkm : (k : Int) + 1 ≤ mc
          · go_wp2_with fail
            go_loopw [10, 11] (fun fv jv wr' => FreeRel xs pre i ((k : Int) + 1) wr fv jv wr') (fun _ jv _ => i - (intOf jv).toNat)
            case atStart => exact ⟨0, Nat.zero_le _, rfl, rfl, Drew.refl _⟩
            case round =>
              obtain ⟨l, hl, rfl, rfl, hd⟩ := hrel
              have HD2 := Lib.hid hd
              clear hd
              obtain ⟨fr, hfr⟩ : ∃ fr, freeB xs pre i ((k : Int) + 1) l = fr := ⟨_, rfl⟩
              rw [hfr]
              by_cases hli : l < i
              · obtain ⟨b, off, x, rfl, _, hx, hcx⟩ := ((h1.below HB.out).below HD2.out.below).at_ (k := l) (by omega)
                obtain ⟨b', off', y', hA, _, hy', hcy⟩ := ((h1.below HB.out).below HD2.out.below).at_ hlt
                obtain ⟨rfl, rfl⟩ : b = b' ∧ off = off' := by injection hA with hA; injection hA with e1 e2; exact ⟨e1, e2⟩
                obtain rfl : y = y' := by have := HY.out; rw [hy'] at this; injection this with this; exact this.symm
                obtain ⟨d, off2, u, rfl, _, hu, hcu⟩ := ((h2.below HB.out).below HD2.out.below).at_ hli
                have hl1 : (l : Int) < i := by omega
                have hl2 : (l : Int) < j := by omega
                have HF := Lib.hid (freeB_succ (r := (k : Int) + 1) hx HY.out hu)
                rw [hfr] at HF
                clear hx hy' hA hu hfr
                cases fr
                · go_wp2_with fail
                  go_quiet (fail)
                  go_wp2_with fail
                  go_roundw
                  case rel => exact ⟨l + 1, by omega, by rw [Int.natCast_add]; rfl, by rw [HF.out]; rfl, HD2.out.trans ⟨_, rfl⟩⟩
                  case measure => simp [intOf]; omega
                · by_cases hxy : x = y
                  · have e1 : (x == y) = true := by rw [beq_iff_eq]; exact hxy
                    have HXY := Lib.hid hxy
                    clear hxy
                    by_cases hur : u = (k : Int) + 1
                    · have e2 : (u == (k : Int) + 1) = true := by rw [beq_iff_eq]; exact hur
                      have HUR := Lib.hid hur
                      clear hur
                      go_wp2_with fail
                      go_quiet (fail)
                      go_wp2_with fail
                      go_roundw
                      case rel => exact ⟨l + 1, by omega, by rw [Int.natCast_add]; rfl, by rw [HF.out]; simp [HXY.out, HUR.out], HD2.out.trans ⟨_, rfl⟩⟩
                      case measure => simp [intOf]; omega
                    · have e2 : (u == (k : Int) + 1) = false := by rw [beq_eq_false_iff_ne]; exact hur
                      have HUR := Lib.hid hur
                      clear hur
                      go_wp2_with fail
                      go_quiet (fail)
                      go_wp2_with fail
                      go_roundw
                      case rel => exact ⟨l + 1, by omega, by rw [Int.natCast_add]; rfl, by rw [HF.out]; simp [HUR.out], HD2.out.trans ⟨_, rfl⟩⟩
                      case measure => simp [intOf]; omega
                  · have e1 : (x == y) = false := by rw [beq_eq_false_iff_ne]; exact hxy
                    have HXY := Lib.hid hxy
                    clear hxy
                    go_wp2_with fail
                    go_quiet (fail)
                    go_wp2_with fail
                    go_roundw
                    case rel => exact ⟨l + 1, by omega, by rw [Int.natCast_add]; rfl, by rw [HF.out]; simp [HXY.out], HD2.out.trans ⟨_, rfl⟩⟩
                    case measure => simp [intOf]; omega
              · obtain rfl : l = i := by omega
                have HFR := Lib.hid hfr
                clear hfr
                cases fr
                · go_wp2_with fail
                  go_roundw
                  case rel => exact ⟨k + 1, by omega, by congr 1, fun v h1 h2 => by
                    by_cases e : v ≤ (k : Int)
                    · exact HNO.out v h1 e
                    · obtain rfl : v = (k : Int) + 1 := by omega
                      exact not_free HL2.out hlt HFR.out, HB.out.trans (HD2.out.below.mono HB.out.size)⟩
                  case measure => simp [intOf]; omega
                · have HBW := Lib.hid (HB.out.trans (HD2.out.below.mono HB.out.size))
                  by_cases hl0 : l = 0
                  · obtain ⟨rfl, rfl⟩ := hA2 hl0
                    have HPRE : Hid (pre = []) := List.eq_nil_of_length_eq_zero (by rw [HL2.out]; exact hl0)
                    have HL0 := Lib.hid hl0
                    have HNIL : Hid (Value.slice none l 0 = Value.slice none 0 0) := by unfold Hid; rw [HL0.out]
                    clear hl0 hA2
                    have HSX := Lib.hid (h1.below HBW.out)
                    have HIN := Lib.hid hin
                    clear hin
                    go_wp2_with (first
                      | (at_builtin; refine wpList_append_none rfl _ _ rfl wr.heap.size _ [] rfl (World.ownsRow_nil _ _ _ _) HNIL.out ?_)
                      | (at_builtin; refine wpList_append_ints rfl _ _ rfl wr.heap.size _ [] rfl (World.ownsRow_nil _ _ _ _) ⟨wr.heap.size, 0, none⟩ 1 1 [(k : Int) + 1] rfl (SL.one wr _ _) (by simp) (by simp) ?_; intro v2 w2 hown2 hg2 _
                         have HW2 : Hid (Below wr.heap.size wr w2) := ((Below.refl wr.heap.size wr).alloc (Nat.le_refl _) _).grown hg2 (by simp) (fun k hk => by cases hk)
                         obtain ⟨A3, c3, hv, hc3, _⟩ := hown2.form
                         have hv2 : v2 = .slice A3 (l + 1) c3 := by rw [hv, HL0.out]; rfl
                         subst hv2
                         have HCALL := Lib.hid (HIH.out _ A3 c3 w2 (HSX.out.below HW2.out) hown2.sl (fun h => by omega) (by have := HIN.out; omega))
                         clear hown2 hg2 hc3)
                      | (go_at_call 60; (with_reducible refine Calls.mono HCALL.out ?_); rintro e w3 ⟨A4, m4, c4, bb, rfl, hb4, hy4, hn4⟩
                         have HY4 := Lib.hid hy4
                         have HN4 := Lib.hid hn4
                         have HB4 : Hid (Below w.heap.size w w3) := (HBW.out.trans (HW2.out.mono HBW.out.size)).trans (hb4.mono (by have := HBW.out.size; have := HW2.out.size; omega))
                         clear hy4 hn4 hb4
                         cases bb))
                    · go_roundw
                      case rel =>
                        have HRR : RankRel xs pre j mc w (.int .i64 ((k : Int) + 1 + 1)) w3 := ⟨k + 1, by omega, by congr 1, fun v h1 h2 => by
                          by_cases e : v ≤ (k : Int)
                          · exact HNO.out v h1 e
                          · obtain rfl : v = (k : Int) + 1 := by omega
                            rw [HPRE.out]; exact HN4.out (by trivial), HB4.out⟩
                        repeat apply Exists.intro
                        exact And.intro HRR rfl
                      case measure => simp [intOf]; omega
                    · go_ret2
                      obtain ⟨R, hm, hs, hd⟩ := HY4.out (by trivial)
                      subst hm
                      exact TryPost.yes HB4.out hs hd
                  · obtain ⟨d, off2, _, rfl, _, _, _⟩ := h2.at_ (k := 0) (by omega)
                    have HSP := Lib.hid (h2.below HBW.out)
                    have HSX := Lib.hid (h1.below HBW.out)
                    have hlen : ([] ++ pre ++ [(k : Int) + 1]).length = l + 1 := by rw [List.nil_append, List.length_append, HL2.out]; rfl
                    have HLEN := Lib.hid hlen
                    have HIN := Lib.hid hin
                    clear hlen hin
                    go_wp2_with (first
                      | (at_builtin; refine wpList_append_ints rfl _ _ rfl wr.heap.size _ [] rfl (World.ownsRow_nil _ _ _ _) ⟨d, off2, none⟩ l c2 pre rfl HSP.out (by simp; omega) (Nat.le_refl _) ?_; intro v1 w1 hown1 hg1 _; have HO1 := Lib.hid hown1; have HW1 := Lib.hid ((Below.refl wr.heap.size wr).grown hg1 (Nat.le_refl _) (fun k hk => by cases hk)); clear hown1 hg1)
                      | (at_builtin; refine wpList_append_ints rfl _ _ rfl wr.heap.size _ ([] ++ pre) rfl (OwnI.below HO1.out ((Below.refl _ _).alloc (Nat.le_refl _) _)) ⟨w1.heap.size, 0, none⟩ 1 1 [(k : Int) + 1] rfl (SL.one w1 _ _) (by have := HL2.out; simp; omega) (by have := HW1.out.size; simp; omega) ?_; intro v2 w2 hown2 hg2 _
                         have HW2 : Hid (Below wr.heap.size wr w2) := (HW1.out.alloc HW1.out.size _).grown hg2 (by have := HW1.out.size; simp; omega) (fun k hk => (HO1.out.lt k hk).1)
                         obtain ⟨A3, c3, hv, hc3, _⟩ := hown2.form
                         rw [HLEN.out] at hv
                         subst hv
                         have HCALL := Lib.hid (HIH.out _ A3 c3 w2 (HSX.out.below HW2.out) hown2.sl (fun h => by omega) (by have := HIN.out; omega))
                         clear hown2 hg2 hc3)
                      | (go_at_call 60; (with_reducible refine Calls.mono HCALL.out ?_); rintro e w3 ⟨A4, m4, c4, bb, rfl, hb4, hy4, hn4⟩
                         have HY4 := Lib.hid hy4
                         have HN4 := Lib.hid hn4
                         have HB4 : Hid (Below w.heap.size w w3) := (HBW.out.trans (HW2.out.mono HBW.out.size)).trans (hb4.mono (by have := HBW.out.size; have := HW2.out.size; omega))
                         clear hy4 hn4 hb4
                         cases bb))
                    · go_roundw
                      case rel => exact ⟨k + 1, by omega, by congr 1, fun v h1 h2 => by
                        by_cases e : v ≤ (k : Int)
                        · exact HNO.out v h1 e
                        · obtain rfl : v = (k : Int) + 1 := by omega
                          exact HN4.out (by trivial), HB4.out⟩
                      case measure => simp [intOf]; omega
                    · go_ret2
                      obtain ⟨R, hm, hs, hd⟩ := HY4.out (by trivial)
                      subst hm
                      exact TryPost.yes HB4.out hs hd
          · have hkm2 : (k : Int) = mc := by omega
            go_wp2_with fail
            go_ret2
            refine TryPost.no HB.out fun R hD hp => ?_
            have hok := hD.2.1 i hlt
            have hpn := prefix_next hp hD.1 (by rw [HL2.out]; exact hlt)
            rw [HL2.out] at hpn
            exact HNO.out (gt R i) hok.1 (by have := hok.2.1; rw [HMC.out] at this; omega) R hD hpn

end Go.Proofs.YtenomnkdfiojbaaDoor
