/-
  The walks of the reference's rotated, Less, Reverse, Reduce, Normal.
-/
import Derived.Test.YtenomnkdfiojbaaDoorRefA
import Derived.Deep.RegionLaw
import Derived.Laws.AppendOwnNone
namespace Go.Proofs.YtenomnkdfiojbaaDoor
open Go.RowKit

/-- An append of integers inside a region whose order is drawn. -/
theorem step_append_ints {w : World} {ops : Array Oper} {o : Oper} {a : Act} {K : Act → World → Prop} {Q : Exit → Act → World → Prop} {E : Prop} (hgd : o.guard = none) (s x : Operand)
    (ho : o.op = .call { callee := .builtin .append, args := #[s, x], argTypes := #[22, 22] })
    (B : Nat) (v : Value) (xs : List Int) (hs : a.eval s = v) (hown : OwnI w B v xs)
    (ad : Addr) (m c : Nat) (ys : List Int) (hx : a.eval x = .slice (some ad) m c) (hy : SL w (some ad) m ys)
    (hbig : xs.length + m ≤ 1000000) (hbase : B ≤ w.heap.size)
    (h : ∀ v' w', OwnI w' B v' (xs ++ ys) → w.grownBy w' v.ownBlock → K (a.put o.dst v') w') :
    if Region.wanted o (yielded ops a.tmps) = true then Oper.wp Tryd.prog o a w K Q else E := by
  have hw : Region.wanted o (yielded ops a.tmps) = true := by simp [Region.wanted, hgd]
  rw [if_pos hw]
  obtain ⟨i0, hi, hz0, hz1, hz2⟩ := info_parts infoInt
  have hm := hy.1
  refine wp_append_own w s x 22 ho B 3 i0 (.int .i64 0) 1 8 Tryd.underlying22 hi hz0 hz1 hz2 rfl (by decide) v xs.length (xs.map (Value.int .i64)) hs hown ad m c (ys.map (Value.int .i64)) hx (by simp [hm]) ?_ ?_ (by unfold maxLen; omega) (by omega) hbase ?_
  · intro j u hj
    rw [List.getElem?_map] at hj
    have hjl : j < ys.length := by
      rcases Nat.lt_or_ge j ys.length with q | q
      · exact q
      · rw [List.getElem?_eq_none q] at hj; cases hj
    obtain ⟨b, off, y, hA, _, hyj, hc⟩ := hy.at_ (k := j) (by omega)
    obtain rfl : ad = ⟨b, off, none⟩ := by injection hA
    rw [hyj] at hj
    rw [Go.WideShapes.add_plain, hc]
    exact hj
  · intro u hu
    obtain ⟨y, _, rfl⟩ := List.mem_map.1 hu
    rfl
  · intro v' w' h1 h2 _
    refine h v' w' ?_ h2
    unfold OwnI
    rw [List.length_append, List.map_append, hm]
    exact h1

theorem SL.offc {w : World} {b off m : Nat} {xs : List Int} (h : SL w (some ⟨b, off, none⟩) m xs) {k : Nat} (hk : k ≤ m) : SL w (some ⟨b, off + k, none⟩) (m - k) (xs.drop k) := by
  refine ⟨by rw [List.length_drop, h.1], fun hn => ?_⟩
  obtain ⟨b', off', hA, hb, hcell⟩ := h.2 (by omega)
  injection hA with hA
  injection hA with e1 e2
  subst e1; subst e2
  refine ⟨b, off + k, rfl, hb, fun j hj => ?_⟩
  rw [List.getElem?_drop, Nat.add_assoc]
  exact hcell (k + j) (by omega)

set_option maxHeartbeats 1000000 in
set_option maxRecDepth 100000 in
theorem rotated_calls (A : Option Addr) (n cap : Nat) (xs : List Int) (i : Nat) (w : World) (h : SL w A n xs) (hc : n ≤ cap) (hi : i < n) (hn : n ≤ 1000) :
    Calls Tryd.prog 49 #[.slice A n cap, .int .i64 i] w (ListPost w (Ln.rotN i xs) n) := by
  obtain ⟨b, off, _, rfl, _, _, _⟩ := h.at_ hi
  have HL := Lib.hid h.1
  have H1 := Lib.hid (h.drew.offc (k := i) (by omega))
  have H2 := Lib.hid (h.take_ (k := i) (by omega))
  have hci : ¬ cap = i := by omega
  have hii : (i : Int) ≤ n := by omega
  have hnc : (n : Int) ≤ cap := by omega
  have hic : i ≤ cap := by omega
  have hin : i ≤ n := by omega
  have hb1 : ([] : List Int).length + (n - i) ≤ 1000000 := by simp; omega
  have hb2 : ([] ++ xs.drop i).length + i ≤ 1000000 := by rw [List.nil_append, List.length_drop, HL.out]; omega
  have hnil : OwnI w.drew w.heap.size (.slice none 0 0) [] := World.ownsRow_nil _ _ _ _
  have HB1 := Lib.hid hb1
  have HB2 := Lib.hid hb2
  have HN := Lib.hid hnil
  clear hb1 hb2 hnil
  go_enter Tryd.func49, Tryd.ntmps49
  go_wp2_with fail
  go_region_law (first
    | ((with_reducible refine step_append_ints rfl _ _ rfl w.heap.size (.slice none 0 0) [] rfl HN.out ⟨b, off + i, none⟩ (n - i) (cap - i) (xs.drop i) rfl H1.out HB1.out (Nat.le_refl _) ?_); intro v1 w1 hown1 hg1; have hB1 : Below w.heap.size w w1 := ((Below.refl w.heap.size w).drew).grown hg1 (Nat.le_refl _) (fun k hk => by cases hk))
    | ((with_reducible refine step_append_ints rfl _ _ rfl w.heap.size v1 ([] ++ xs.drop i) rfl hown1 ⟨b, off, none⟩ i cap (xs.take i) rfl (H2.out.below hB1) HB2.out hB1.size ?_); intro v2 w2 hown2 hg2))
  all_goals go_wp2_with fail
  all_goals go_ret
  all_goals
    rw [List.nil_append, ← Ln.rotN_drop xs i (by rw [HL.out]; omega)] at hown2
    exact ListPost.of (by rw [Ln.length_rotN, HL.out]) hown2 (hB1.grown hg2 hB1.size (fun k hk => (hown1.lt k hk).1))

def LessRel (xs ys : List Int) (n : Nat) (w : World) (i : Value) (wr : World) : Prop :=
  ∃ j q : Nat, j ≤ n ∧ i = .int .i64 j ∧ (∀ i, i < j → xs[i]? = ys[i]?) ∧ wr = w.drewN q

set_option maxHeartbeats 1000000 in
theorem less_calls (A1 A2 : Option Addr) (n c1 c2 : Nat) (xs ys : List Int) (w : World) (h1 : SL w A1 n xs) (h2 : SL w A2 n ys) (hn : n ≤ 1000) :
    Calls Tryd.prog 50 #[.slice A1 n c1, .slice A2 n c2] w fun e w' => e = .returned (.bool (Ln.lexLt xs ys)) ∧ Below w.heap.size w w' := by
  have HL1 := Lib.hid h1.1
  have HL2 := Lib.hid h2.1
  go_enter Tryd.func50, Tryd.ntmps50
  go_wp2_with fail
  go_loopw [5] (fun i wr => LessRel xs ys n w i wr) (fun i _ => n - (intOf i).toNat)
  case atStart => exact ⟨0, 0, Nat.zero_le _, rfl, fun i hi => by omega, rfl⟩
  case round =>
    obtain ⟨j, q, hj, rfl, hall, rfl⟩ := hrel
    have HALL := Lib.hid hall
    clear hall
    by_cases hlt : j < n
    · obtain ⟨b, off, x, rfl, _, hx, hc⟩ := h1.at_ hlt
      obtain ⟨b', off', y, rfl, _, hy, hd⟩ := h2.at_ hlt
      have hi1 : (j : Int) < n := by omega
      have HX := Lib.hid hx
      have HY := Lib.hid hy
      clear hx hy
      by_cases hxy : x = y
      · have hne2 : (x != y) = false := by rw [bne_eq_false_iff_eq]; exact hxy
        have HXY := Lib.hid hxy
        clear hxy
        go_wp2_with fail
        go_quiet (fail)
        go_wp2_with fail
        go_roundw
        case rel => exact ⟨j + 1, _, by omega, by rw [Int.natCast_add]; rfl, fun i hi => by
          by_cases e : i = j
          · subst e; rw [HX.out, HY.out, HXY.out]
          · exact HALL.out i (by omega), rfl⟩
        case measure => simp [intOf]; omega
      · have hne2 : (x != y) = true := by rw [bne_iff_ne]; exact hxy
        have HF : Hid (Ln.lexLt xs ys = decide (x < y)) := (lexLt_at hxy j xs ys HALL.out HX.out HY.out).1
        clear hxy
        go_wp2_with fail
        go_quiet (fail)
        go_wp2_with fail
        go_quiet (fail)
        go_wp2_with fail
        all_goals go_ret
        all_goals exact ⟨ret_bool (by rw [HF.out]), below_drewN (below_drewN (below_drewN (Below.refl _ _) _) _) _⟩
    · have HE : Hid (Ln.lexLt xs ys = false) := by
        have e : xs = ys := by
          apply List.ext_getElem?
          intro i
          by_cases hi : i < n
          · exact HALL.out i (by omega)
          · rw [List.getElem?_eq_none (by rw [HL1.out]; omega), List.getElem?_eq_none (by rw [HL2.out]; omega)]
        unfold Hid
        rw [e]; exact Ln.lexLt_irrefl _
      go_wp2_with fail
      go_ret
      exact ⟨ret_bool HE.out.symm, below_drewN (Below.refl _ _) _⟩

end Go.Proofs.YtenomnkdfiojbaaDoor
