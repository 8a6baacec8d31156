/-
  The walks of the reference's before, between, Drawn.
-/
import Derived.Test.YtenomnkdfiojbaaDoorRkD
namespace Go.Proofs.YtenomnkdfiojbaaDoor
open Go.RowKit

/-- Only draws lie between the worlds. -/
def Drew (w w' : World) : Prop := ∃ q, w' = w.drewN q
theorem Drew.refl (w : World) : Drew w w := ⟨0, rfl⟩
theorem Drew.trans {w w1 w2 : World} (h : Drew w w1) (h2 : Drew w1 w2) : Drew w w2 := by
  obtain ⟨q, rfl⟩ := h
  obtain ⟨q2, rfl⟩ := h2
  exact ⟨q + q2, by rw [World.drewN_drewN]⟩
theorem Drew.sl {w w' : World} {A : Option Addr} {n : Nat} {xs : List Int} (h : Drew w w') (hs : SL w A n xs) : SL w' A n xs := by
  obtain ⟨q, rfl⟩ := h
  exact hs.drewN q
theorem Drew.below {w w' : World} (h : Drew w w') : Below w.heap.size w w' := by
  obtain ⟨q, rfl⟩ := h
  exact below_drewN (Below.refl _ _) _

theorem befB_of {xs R : List Int} {i j : Nat} {x y u v : Int} (hx : xs[i]? = some x) (hy : xs[j]? = some y) (hu : R[i]? = some u) (hv : R[j]? = some v) : befB xs R i j = (decide (x < y) || (decide (x = y) && decide (u < v))) := by
  unfold befB gt
  simp only [List.getD_eq_getElem?_getD, hx, hy, hu, hv, Option.getD_some]

set_option maxHeartbeats 1000000 in
theorem before_calls (A1 A2 : Option Addr) (n c1 c2 : Nat) (xs R : List Int) (i j : Nat) (w : World) (h1 : SL w A1 n xs) (h2 : SL w A2 n R) (hi : i < n) (hj : j < n) (_hn : n ≤ 1000) :
    Calls Tryd.prog 76 #[.slice A1 n c1, .slice A2 n c2, .int .i64 (i : Int), .int .i64 (j : Int)] w fun e w' => e = .returned (.bool (befB xs R i j)) ∧ ∃ q, w' = w.drewN q := by
  obtain ⟨b, off, x, rfl, _, hx, hcx⟩ := h1.at_ hi
  obtain ⟨b', off', y, hA, _, hy, hcy⟩ := h1.at_ hj
  obtain ⟨rfl, rfl⟩ : b = b' ∧ off = off' := by injection hA with hA; injection hA with e1 e2; exact ⟨e1, e2⟩
  obtain ⟨d, off2, u, rfl, _, hu, hcu⟩ := h2.at_ hi
  obtain ⟨d', off3, v, hA2, _, hv, hcv⟩ := h2.at_ hj
  obtain ⟨rfl, rfl⟩ : d = d' ∧ off2 = off3 := by injection hA2 with hA; injection hA with e1 e2; exact ⟨e1, e2⟩
  have HB := Lib.hid (befB_of hx hy hu hv)
  have hi1 : (i : Int) < n := by omega
  have hj1 : (j : Int) < n := by omega
  clear hx hy hu hv hA hA2
  rcases Int.lt_trichotomy x y with hlt | he | hgt
  · go_enter Tryd.func76, Tryd.ntmps76
    go_wp2_with fail
    go_quiet (fail)
    go_wp2_with fail
    go_ret
    exact ⟨ret_bool (by rw [HB.out]; simp [hlt]), _, rfl⟩
  · subst he
    have h0 : ¬ x < x := Int.lt_irrefl x
    go_enter Tryd.func76, Tryd.ntmps76
    go_wp2_with fail
    go_quiet (fail)
    go_wp2_with fail
    go_ret
    exact ⟨ret_bool (by rw [HB.out]; simp), _, rfl⟩
  · have h0 : ¬ x < y := by omega
    have hne : ¬ x = y := by omega
    have hbe : (x == y) = false := by rw [beq_eq_false_iff_ne]; exact hne
    have HNE := Lib.hid hne
    have hd : decide (x < y) = false := by simpa using h0
    clear hne hgt
    go_enter Tryd.func76, Tryd.ntmps76
    go_wp2_with fail
    go_quiet (fail)
    go_wp2_with fail
    go_ret
    exact ⟨ret_bool (by rw [HB.out]; simp [hd, HNE.out]), _, rfl⟩

set_option maxHeartbeats 4000000 in
set_option maxRecDepth 100000 in
theorem between_calls (A1 A2 : Option Addr) (n c1 c2 : Nat) (xs R : List Int) (x a b : Nat) (w : World) (h1 : SL w A1 n xs) (h2 : SL w A2 n R) (hx : x < n) (ha : a < n) (hb : b < n) (hn : n ≤ 1000) :
    Calls Tryd.prog 61 #[.slice A1 n c1, .slice A2 n c2, .int .i64 (x : Int), .int .i64 (a : Int), .int .i64 (b : Int)] w fun e w' => e = .returned (.bool (betB xs R x a b)) ∧ ∃ q, w' = w.drewN q := by
  have HE : betB xs R x a b = ((befB xs R a x && befB xs R x b) || (befB xs R b x && befB xs R x a)) := rfl
  rw [HE]
  have HC : Hid (∀ (i j : Nat) (w' : World), Drew w w' → i < n → j < n → Calls Tryd.prog 76 #[.slice A1 n c1, .slice A2 n c2, .int .i64 (i : Int), .int .i64 (j : Int)] w' fun e w'' => e = .returned (.bool (befB xs R i j)) ∧ Drew w w'') := by
    unfold Hid
    intro i j w' hd hi hj
    refine (before_calls A1 A2 n c1 c2 xs R i j w' (hd.sl h1) (hd.sl h2) hi hj hn).mono ?_
    rintro e w'' ⟨he, hw⟩
    exact ⟨he, hd.trans hw⟩
  have K1 := Lib.hid (fun w' hd => HC.out a x w' hd ha hx)
  have K2 := Lib.hid (fun w' hd => HC.out x b w' hd hx hb)
  have K3 := Lib.hid (fun w' hd => HC.out b x w' hd hb hx)
  have K4 := Lib.hid (fun w' hd => HC.out x a w' hd hx ha)
  clear HE HC
  generalize befB xs R a x = p1 at K1 ⊢
  generalize befB xs R x b = p2 at K2 ⊢
  generalize befB xs R b x = p3 at K3 ⊢
  generalize befB xs R x a = p4 at K4 ⊢
  clear hx ha hb h1 h2
  suffices hs : Calls Tryd.prog 61 #[.slice A1 n c1, .slice A2 n c2, .int .i64 (x : Int), .int .i64 (a : Int), .int .i64 (b : Int)] w fun e w' => e = .returned (.bool ((p1 && p2) || (p3 && p4))) ∧ Drew w w' from hs
  go_enter Tryd.func61, Tryd.ntmps61
  go_wp2_with fail
  refine (K1.out _ (Drew.refl w)).mono ?_
  rintro e w1 ⟨rfl, d1⟩
  cases p1
  · go_wp2_with fail
    refine (K3.out _ d1).mono ?_
    rintro e w3 ⟨rfl, d3⟩
    cases p3
    · go_wp2_with fail
      go_ret
      exact ⟨rfl, d3⟩
    · go_wp2_with fail
      refine (K4.out _ d3).mono ?_
      rintro e w4 ⟨rfl, d4⟩
      go_wp2_with fail
      go_ret
      exact ⟨by simp, d4⟩
  · go_wp2_with fail
    refine (K2.out _ d1).mono ?_
    rintro e w2 ⟨rfl, d2⟩
    cases p2
    · go_wp2_with fail
      refine (K3.out _ d2).mono ?_
      rintro e w3 ⟨rfl, d3⟩
      cases p3
      · go_wp2_with fail
        go_ret
        exact ⟨rfl, d3⟩
      · go_wp2_with fail
        refine (K4.out _ d3).mono ?_
        rintro e w4 ⟨rfl, d4⟩
        go_wp2_with fail
        go_ret
        exact ⟨by simp, d4⟩
    · go_wp2_with fail
      go_ret
      exact ⟨rfl, d2⟩

theorem manyC_succ {xs : List Int} {i j : Nat} {x y : Int} (hx : xs[j]? = some x) (hy : xs[i]? = some y) : manyC xs i (j + 1) = manyC xs i j + if x = y then 1 else 0 := by
  unfold manyC
  rw [cnt]
  unfold gt
  simp only [List.getD_eq_getElem?_getD, hx, hy, Option.getD_some, decide_eq_true_eq]
theorem sameC_succ {xs R : List Int} {i j : Nat} {x y u v : Int} (hx : xs[j]? = some x) (hy : xs[i]? = some y) (hu : R[j]? = some u) (hv : R[i]? = some v) : sameC xs R i (j + 1) = sameC xs R i j + if x = y ∧ u = v then 1 else 0 := by
  unfold sameC
  rw [cnt]
  unfold gt
  simp only [List.getD_eq_getElem?_getD, hx, hy, hu, hv, Option.getD_some, Bool.and_eq_true, decide_eq_true_eq]

/-- What Drawn answers. -/
def DrawnPost (xs R : List Int) (n : Nat) (w : World) (e : Ending) (w' : World) : Prop := ∃ b, e = .returned (.bool b) ∧ (b = true ↔ DrawnR xs R n) ∧ ∃ q, w' = w.drewN q
theorem DrawnPost.no {xs R : List Int} {n : Nat} {w w' : World} (h : ¬ DrawnR xs R n) (hw : ∃ q, w' = w.drewN q) : DrawnPost xs R n w (.returned (.bool false)) w' :=
  ⟨false, rfl, ⟨fun c => absurd c (by decide), fun D => absurd D h⟩, hw⟩
theorem DrawnPost.yes {xs R : List Int} {n : Nat} {w w' : World} (h : DrawnR xs R n) (hw : ∃ q, w' = w.drewN q) : DrawnPost xs R n w (.returned (.bool true)) w' :=
  ⟨true, rfl, ⟨fun _ => h, fun _ => rfl⟩, hw⟩
def CountRel (xs R : List Int) (n i : Nat) (w : World) (m s j : Value) (wr : World) : Prop :=
  ∃ k q : Nat, k ≤ n ∧ j = .int .i64 k ∧ m = .int .i64 (manyC xs i k) ∧ s = .int .i64 (sameC xs R i k) ∧ wr = w.drewN q
def OkRel (xs R : List Int) (n : Nat) (w : World) (i : Value) (wr : World) : Prop :=
  ∃ k q : Nat, k ≤ n ∧ i = .int .i64 k ∧ (∀ a, a < k → okR xs R n a) ∧ wr = w.drewN q
def NcRel (xs R : List Int) (n : Nat) (w : World) (i : Value) (wr : World) : Prop :=
  ∃ k q : Nat, k ≤ n ∧ i = .int .i64 k ∧ (∀ a b, a < k → b < n → b % 2 = a % 2 → b ≠ a → ncR xs R n a b) ∧ wr = w.drewN q
def NcIn (xs R : List Int) (n i : Nat) (w : World) (j : Value) (wr : World) : Prop :=
  ∃ k q : Nat, k ≤ n + 1 ∧ k % 2 = i % 2 ∧ j = .int .i64 k ∧ (∀ b, b < k → b < n → b % 2 = i % 2 → b ≠ i → ncR xs R n i b) ∧ wr = w.drewN q

set_option maxHeartbeats 20000000 in
set_option maxRecDepth 100000 in
theorem drawnR_calls (A1 A2 : Option Addr) (n m c1 c2 : Nat) (xs R : List Int) (w : World) (h1 : SL w A1 n xs) (h2 : SL w A2 m R) (hn : n ≤ 400) (hm : m ≤ 1000) :
    Calls Tryd.prog 41 #[.slice A1 n c1, .slice A2 m c2] w (DrawnPost xs R n w) := by
  have HL2 := Lib.hid h2.1
  by_cases hmn : m = n
  · subst hmn
    go_enter Tryd.func41, Tryd.ntmps41
    go_wp2_with fail
    go_loopw [6] (fun i wr => OkRel xs R m w i wr) (fun i _ => m - (intOf i).toNat)
    case atStart => exact ⟨0, 0, Nat.zero_le _, rfl, fun a ha => by omega, rfl⟩
    case round =>
      obtain ⟨i, q, hi, rfl, hall, rfl⟩ := hrel
      have HALL := Lib.hid hall
      clear hall
      by_cases hlt : i < m
      · obtain ⟨b, off, y, rfl, _, hy, hcy⟩ := h1.at_ hlt
        obtain ⟨d, off2, v, rfl, _, hv, hcv⟩ := h2.at_ hlt
        have hi1 : (i : Int) < m := by omega
        have HY := Lib.hid hy
        have HV := Lib.hid hv
        clear hy hv
        go_wp2_with fail
        go_loopw [7, 8, 9] (fun mv sv jv wr => CountRel xs R m i w mv sv jv wr) (fun _ _ jv _ => m - (intOf jv).toNat)
        case atStart => exact ⟨0, q, Nat.zero_le _, rfl, rfl, rfl, rfl⟩
        case round =>
          obtain ⟨j, q2, hj, rfl, rfl, rfl, rfl⟩ := hrel
          have m0 := cnt_nonneg (fun j => decide (gt xs j = gt xs i)) j
          have m1 := cnt_le (fun j => decide (gt xs j = gt xs i)) j
          have s0 := cnt_nonneg (fun j => decide (gt xs j = gt xs i) && decide (gt R j = gt R i)) j
          have s1 := cnt_le (fun j => decide (gt xs j = gt xs i) && decide (gt R j = gt R i)) j
          obtain ⟨mc, hmc⟩ : ∃ mc, manyC xs i j = mc := ⟨_, rfl⟩
          obtain ⟨sc, hsc⟩ : ∃ sc, sameC xs R i j = sc := ⟨_, rfl⟩
          have m0' : 0 ≤ mc := by rw [← hmc]; exact m0
          have m1' : mc ≤ j := by rw [← hmc]; exact m1
          have s0' : 0 ≤ sc := by rw [← hsc]; exact s0
          have s1' : sc ≤ j := by rw [← hsc]; exact s1
          rw [hmc, hsc]
          clear m0 m1 s0 s1
          by_cases hjl : j < m
          · obtain ⟨b', off', x, hA, _, hx, hcx⟩ := h1.at_ hjl
            obtain ⟨rfl, rfl⟩ : b = b' ∧ off = off' := by injection hA with hA; injection hA with e1 e2; exact ⟨e1, e2⟩
            obtain ⟨d', off3, u, hA2, _, hu, hcu⟩ := h2.at_ hjl
            obtain ⟨rfl, rfl⟩ : d = d' ∧ off2 = off3 := by injection hA2 with hA; injection hA with e1 e2; exact ⟨e1, e2⟩
            have hj1 : (j : Int) < m := by omega
            have HM := Lib.hid (manyC_succ hx HY.out)
            have HS := Lib.hid (sameC_succ hx HY.out hu HV.out)
            rw [hmc] at HM
            rw [hsc] at HS
            clear hx hu hA hA2 hmc hsc
            by_cases hxy : x = y
            · have e1 : (x == y) = true := by rw [beq_iff_eq]; exact hxy
              have HXY := Lib.hid hxy
              clear hxy
              by_cases huv : u = v
              · have e2 : (u == v) = true := by rw [beq_iff_eq]; exact huv
                have HUV := Lib.hid huv
                clear huv
                go_wp2_with fail
                go_quiet (fail)
                go_wp2_with fail
                go_quiet (fail)
                go_wp2_with fail
                go_roundw
                case rel => exact ⟨j + 1, _, by omega, by rw [Int.natCast_add]; rfl, by rw [HM.out, if_pos HXY.out], by rw [HS.out, if_pos ⟨HXY.out, HUV.out⟩], rfl⟩
                case measure => simp [intOf]; omega
              · have e2 : (u == v) = false := by rw [beq_eq_false_iff_ne]; exact huv
                have HUV := Lib.hid huv
                clear huv
                go_wp2_with fail
                go_quiet (fail)
                go_wp2_with fail
                go_quiet (fail)
                go_wp2_with fail
                go_roundw
                case rel => exact ⟨j + 1, _, by omega, by rw [Int.natCast_add]; rfl, by rw [HM.out, if_pos HXY.out], by rw [HS.out, if_neg (fun c => HUV.out c.2), Int.add_zero], rfl⟩
                case measure => simp [intOf]; omega
            · have e1 : (x == y) = false := by rw [beq_eq_false_iff_ne]; exact hxy
              have HXY := Lib.hid hxy
              clear hxy
              go_wp2_with fail
              go_quiet (fail)
              go_wp2_with fail
              go_roundw
              case rel => exact ⟨j + 1, _, by omega, by rw [Int.natCast_add]; rfl, by rw [HM.out, if_neg HXY.out, Int.add_zero], by rw [HS.out, if_neg (fun c => HXY.out c.1), Int.add_zero], rfl⟩
              case measure => simp [intOf]; omega
          · obtain rfl : j = m := by omega
            have HO : Hid (okR xs R j i ↔ 1 ≤ v ∧ v ≤ mc ∧ sc = 1) := by
              unfold Hid okR gt
              rw [List.getD_eq_getElem?_getD, HV.out, hmc, hsc]
              rfl
            clear hmc hsc
            have NO : Hid (¬ (1 ≤ v ∧ v ≤ mc ∧ sc = 1) → ¬ DrawnR xs R j) := fun hno hD => hno (HO.out.1 (hD.2.1 i hlt))
            by_cases hv1 : v < 1
            · have HN := Lib.hid (NO.out (by omega))
              go_wp2_with fail
              go_ret
              exact DrawnPost.no HN.out ⟨_, rfl⟩
            · by_cases hv2 : mc < v
              · have HN := Lib.hid (NO.out (by omega))
                go_wp2_with fail
                go_ret
                exact DrawnPost.no HN.out ⟨_, rfl⟩
              · by_cases hs1 : sc = 1
                · have HY2 := Lib.hid (HO.out.2 ⟨by omega, by omega, hs1⟩)
                  subst hs1
                  go_wp2_with fail
                  go_roundw
                  case rel => exact ⟨i + 1, _, by omega, by rw [Int.natCast_add]; rfl, fun a ha => by
                    by_cases e : a = i
                    · subst e; exact HY2.out
                    · exact HALL.out a (by omega), rfl⟩
                  case measure => simp [intOf]; omega
                · have HN := Lib.hid (NO.out (by omega))
                  have e3 : (sc != 1) = true := by rw [bne_iff_ne]; exact hs1
                  clear hs1
                  go_wp2_with fail
                  go_ret
                  exact DrawnPost.no HN.out ⟨_, rfl⟩
      · obtain rfl : i = m := by omega
        go_wp2_with fail
        go_loopw [10] (fun i' wr => NcRel xs R i w i' wr) (fun i' _ => i - (intOf i').toNat)
        case atStart => exact ⟨0, q, Nat.zero_le _, rfl, fun a b ha => by omega, rfl⟩
        case round =>
          obtain ⟨a, q2, ha, rfl, hnc, hwr⟩ := hrel
          have HNC := Lib.hid hnc
          have HWR := Lib.hid hwr
          clear hnc hwr
          by_cases hal : a < i
          · have ha1 : (a : Int) < i := by omega
            have ha2 : (a : Int) % 2 = ((a % 2 : Nat) : Int) := by omega
            go_wp2_with fail
            go_loopw [11] (fun j' wr => NcIn xs R i a w j' wr) (fun j' _ => i + 1 - (intOf j').toNat)
            case atStart => exact ⟨a % 2, _, by omega, by omega, rfl, fun b hb => by omega, HWR.out⟩
            case round =>
              obtain ⟨b, q3, hb, hab, rfl, hnc, hwr2⟩ := hrel
              have HNI := Lib.hid hnc
              clear hnc
              have s1 : SL wr A1 i xs := hwr2 ▸ h1.drewN q3
              have s2 : SL wr A2 i R := hwr2 ▸ h2.drewN q3
              have HW2 := Lib.hid hwr2
              clear hwr2
              by_cases hbl : b < i
              · have hb1 : (b : Int) < i := by omega
                by_cases hba : b = a
                · have hne : (b : Int) = (a : Int) := by omega
                  have hne2 : ((b : Int) != (a : Int)) = false := by rw [bne_eq_false_iff_eq]; exact hne
                  have HBA := Lib.hid hba
                  clear hba hne
                  go_wp2_with fail
                  go_quiet (fail)
                  go_wp2_with fail
                  go_roundw
                  case rel => exact ⟨b + 2, _, by omega, by omega, by rw [Int.natCast_add]; rfl, fun c hc hcl hca hne => by
                    by_cases e : c < b
                    · exact HNI.out c e hcl hca hne
                    · exact absurd (show c = a by have := HBA.out; omega) hne, (by rw [HW2.out, World.drewN_drewN])⟩
                  case measure => simp [intOf]; omega
                · have hne : ¬ (b : Int) = (a : Int) := by omega
                  have hne2 : ((b : Int) != (a : Int)) = true := by rw [bne_iff_ne]; exact hne
                  have l1 : (a + 1) % i < i := Nat.mod_lt _ (by omega)
                  have l2 : (b + 1) % i < i := Nat.mod_lt _ (by omega)
                  have hm1 : ((a : Int) + 1) % (i : Int) = ((a + 1) % i : Nat) := by rw [← Int.natCast_one, ← Int.natCast_add, ← Int.natCast_emod]
                  have hm2 : ((b : Int) + 1) % (i : Int) = ((b + 1) % i : Nat) := by rw [← Int.natCast_one, ← Int.natCast_add, ← Int.natCast_emod]
                  have K1 := Lib.hid (fun q => between_calls A1 A2 i c1 c2 xs R b a ((a + 1) % i) (wr.drewN q) (s1.drewN q) (s2.drewN q) hbl hal l1 (by omega))
                  have K2 := Lib.hid (fun q => between_calls A1 A2 i c1 c2 xs R ((b + 1) % i) a ((a + 1) % i) (wr.drewN q) (s1.drewN q) (s2.drewN q) l2 hal l1 (by omega))
                  have HN : Hid (ncR xs R i a b ↔ betB xs R b a ((a + 1) % i) = betB xs R ((b + 1) % i) a ((a + 1) % i)) := Iff.rfl
                  generalize betB xs R b a ((a + 1) % i) = p1 at K1 HN
                  generalize betB xs R ((b + 1) % i) a ((a + 1) % i) = p2 at K2 HN
                  generalize (a + 1) % i = a1 at hm1 K1 K2 l1
                  generalize (b + 1) % i = b1 at hm2 K2 l2
                  have HI := Lib.hid hne
                  clear hne
                  by_cases hp : p1 = p2
                  · have HN2 := Lib.hid (HN.out.2 hp)
                    subst hp
                    have hpp : (p1 != p1) = false := by simp
                    go_wp2_with fail
                    go_quiet ((go_at_call 61; first | (with_reducible refine Calls.quiet_of (K1.out _)) | (with_reducible refine Calls.quiet_of (K2.out _))))
                    go_wp2_with fail
                    go_roundw
                    case rel => exact ⟨b + 2, _, by omega, by omega, by rw [Int.natCast_add]; rfl, fun c hc hcl hca hne => by
                      by_cases e : c < b
                      · exact HNI.out c e hcl hca hne
                      · obtain rfl : c = b := by omega
                        exact HN2.out, (by rw [HW2.out, World.drewN_drewN])⟩
                    case measure => simp [intOf]; omega
                  · have HNO : Hid (¬ DrawnR xs R i) := fun D => hp (HN.out.1 (D.2.2 a b hal hbl hab (fun e => HI.out (by rw [e]))))
                    obtain rfl : p2 = !p1 := by cases p1 <;> cases p2 <;> simp_all
                    have hpp : (p1 != !p1) = true := by simp
                    clear hp
                    go_wp2_with fail
                    go_quiet ((go_at_call 61; first | (with_reducible refine Calls.quiet_of (K1.out _)) | (with_reducible refine Calls.quiet_of (K2.out _))))
                    go_wp2_with fail
                    go_ret
                    exact DrawnPost.no HNO.out ⟨_, (by rw [HW2.out, World.drewN_drewN])⟩
              · have hb1 : ¬ (b : Int) < i := by omega
                go_wp2_with fail
                go_roundw
                case rel => exact ⟨a + 1, _, by omega, by rw [Int.natCast_add]; rfl, fun a' b' ha' hb' hab' hne => by
                  by_cases e : a' = a
                  · subst e; exact HNI.out b' (by omega) hb' hab' hne
                  · exact HNC.out a' b' (by omega) hb' hab' hne, HW2.out⟩
                case measure => simp [intOf]; omega
          · obtain rfl : a = i := by omega
            go_wp2_with fail
            go_ret
            exact DrawnPost.yes ⟨HL2.out, HALL.out, fun c d hc hd hcd hne => HNC.out c d hc hd hcd hne⟩ ⟨_, HWR.out⟩
  · have hne : ¬ (m : Int) = (n : Int) := by omega
    have hne2 : ((m : Int) != (n : Int)) = true := by rw [bne_iff_ne]; exact hne
    have HNO : Hid (¬ DrawnR xs R n) := fun D => hmn (by rw [← HL2.out]; exact D.1)
    clear hmn
    go_enter Tryd.func41, Tryd.ntmps41
    go_wp2_with fail
    go_ret
    exact DrawnPost.no HNO.out ⟨0, rfl⟩

end Go.Proofs.YtenomnkdfiojbaaDoor
