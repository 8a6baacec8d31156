/-
  Word Slice Reduce Compare Least of the layer line, in a namespace of their own (Lw), beside the texts of the layer code.
-/
import Derived.Test.YtbbpockkafbfmaaDoorMem
import Derived.Test.YtbbpockkafbfmaaDoorLn
import Derived.Test.YtbbpockkafbfmaaDoorShelf
import Derived.Lib.AppendZerosOnto
import Derived.Lib.Walk
import Derived.Lib.SliceRun
import Derived.BigQuiet
import Derived.Deep.QuietTactic
import Derived.Deep.RegionWith

namespace Go.Proofs.YtbbpockkafbfmaaDoor.Lw
open Go.RowKit

/-- What line.Valid answers. -/
def validB (k : Int) (xs : List Int) : Bool :=
  decide (0 ≤ k) && decide (k ≤ 40) && decide (xs.length ≤ 400) && decide (xs.length % 2 = 0) && xs.all (fun g => decide (0 ≤ g) && decide (g ≤ k))

theorem all_take_succ {xs : List Int} {p : Int → Bool} {i : Nat} {x : Int} (hx : xs[i]? = some x) : (xs.take (i + 1)).all p = ((xs.take i).all p && p x) := by
  rw [List.take_add_one, hx]; simp
theorem all_of_not {xs : List Int} {p : Int → Bool} {i : Nat} {x : Int} (hx : xs[i]? = some x) (hp : p x = false) : xs.all p = false := by
  have hm : x ∈ xs := List.mem_of_getElem? hx
  cases h : xs.all p with
  | false => rfl
  | true => rw [List.all_eq_true] at h; rw [h x hm] at hp; exact hp
theorem ret_bool {a b : Bool} (h : a = b) : Ending.returned (.bool a) = .returned (.bool b) := by rw [h]
theorem ret_int {k : IntKind} {a b : Int} (h : a = b) : Ending.returned (.int k a) = .returned (.int k b) := by rw [h]

theorem validB_no {k : Int} {xs : List Int} {n : Nat} (hl : xs.length = n) (h : ¬ (0 ≤ k ∧ k ≤ 40 ∧ n ≤ 400 ∧ n % 2 = 0)) : validB k xs = false := by
  subst hl
  unfold validB
  simp only [Bool.and_eq_false_iff, decide_eq_false_iff_not]
  omega

set_option maxHeartbeats 400000 in
theorem valid_calls (k : Int) (A : Option Addr) (n cap : Nat) (xs : List Int) (w : World) (h : SL w A n xs) (hn : n ≤ maxLen) :
    Calls Tryd.prog 90 #[.int .i64 k, .slice A n cap] w fun e w' => e = .returned (.bool (validB k xs)) ∧ w = w' := by
  unfold maxLen at hn
  have hl := Lib.hid h.1
  by_cases hv : 0 ≤ k ∧ k ≤ 40 ∧ n ≤ 400 ∧ n % 2 = 0
  · obtain ⟨k0, k40, n400, n2⟩ := hv
    have hm : ((n : Int) % 2 != 0) = false := by rw [bne_eq_false_iff_eq]; omega
    have HN := Lib.hid n2
    clear n2
    go_enter Tryd.func90, Tryd.ntmps90
    go_wp2
    go_loop [26] (fun i => ∃ j : Nat, j ≤ n ∧ i = .int .i64 j ∧ (xs.take j).all (fun g => decide (0 ≤ g) && decide (g ≤ k)) = true) (fun i => n - (intOf i).toNat)
    case atStart => exact ⟨0, Nat.zero_le _, rfl, by simp⟩
    case round =>
      obtain ⟨j, hj, rfl, hall⟩ := hrel
      have HALL := Lib.hid hall
      clear hall
      by_cases hlt : j < n
      · obtain ⟨b, off, x, rfl, hb, hx, hc⟩ := h.at_ hlt
        have HX := Lib.hid hx
        clear hx
        by_cases hp : 0 ≤ x ∧ x ≤ k
        · obtain ⟨x0, xk⟩ := hp
          go_wp2
          go_round
          case rel => exact ⟨j + 1, by omega, by go_num, by rw [all_take_succ HX.out, HALL.out]; simp [x0, xk]⟩
          case measure => simp [intOf]; omega
        · have hf : xs.all (fun g => decide (0 ≤ g) && decide (g ≤ k)) = false := all_of_not HX.out (by simp only [Bool.and_eq_false_iff, decide_eq_false_iff_not]; omega)
          have HV : Hid (validB k xs = false) := by unfold Hid validB; rw [hf, Bool.and_false]
          clear hf
          by_cases hx0 : x < 0
          · go_wp2
            go_ret
            exact ⟨ret_bool HV.out.symm, rfl⟩
          · have hkx : k < x := by omega
            clear hp
            go_wp2
            go_ret
            exact ⟨ret_bool HV.out.symm, rfl⟩
      · go_wp2
        go_ret
        refine ⟨ret_bool ?_, rfl⟩
        obtain rfl : j = n := by omega
        have e := HALL.out
        rw [List.take_of_length_le (by rw [hl.out]; omega)] at e
        unfold validB
        rw [e, hl.out]
        simp [HN.out]; omega
  · have HV : Hid (validB k xs = false) := validB_no hl.out hv
    by_cases n2 : n % 2 = 0
    · have hv' : ¬ (0 ≤ k ∧ k ≤ 40 ∧ n ≤ 400) := fun ⟨a, b, c⟩ => hv ⟨a, b, c, n2⟩
      have hm : ((n : Int) % 2 != 0) = false := by rw [bne_eq_false_iff_eq]; omega
      clear n2 hv
      go_enter Tryd.func90, Tryd.ntmps90
      go_wp2
      all_goals first | (exfalso; omega) | (go_ret; exact ⟨ret_bool HV.out.symm, rfl⟩)
    · have hm : ((n : Int) % 2 != 0) = true := by rw [bne_iff_ne]; omega
      clear n2 hv
      go_enter Tryd.func90, Tryd.ntmps90
      go_wp2
      all_goals (go_ret; exact ⟨ret_bool HV.out.symm, rfl⟩)

/-- The error of a list that should be a word for k fingers. -/
def errB (k : Int) (xs : List Int) : Int := if 400 < xs.length then 7 else if validB k xs then 0 else 2

set_option maxHeartbeats 400000 in
theorem check_calls (k : Int) (A : Option Addr) (n cap : Nat) (xs : List Int) (w : World) (h : SL w A n xs) (hn : n ≤ maxLen) :
    Calls Tryd.prog 55 #[.int .i64 k, .slice A n cap] w fun e w' => e = .returned (.int .i64 (errB k xs)) ∧ w = w' := by
  have hl := Lib.hid h.1
  by_cases h4 : n ≤ 400
  · cases hv : validB k xs with
    | true =>
      have HV := Lib.hid hv
      have H := Lib.hid (valid_calls k A n cap xs w h hn)
      clear hv
      go_enter Tryd.func55, Tryd.ntmps55
      go_wp2_with (go_at_call 90; refine H.out.mono ?_; rw [HV.out]; rintro e w' ⟨rfl, rfl⟩)
      go_ret
      refine ⟨ret_int ?_, rfl⟩
      unfold errB; rw [hl.out, HV.out, if_neg (by omega)]; rfl
    | false =>
      have HV := Lib.hid hv
      have H := Lib.hid (valid_calls k A n cap xs w h hn)
      clear hv
      go_enter Tryd.func55, Tryd.ntmps55
      go_wp2_with (go_at_call 90; refine H.out.mono ?_; rw [HV.out]; rintro e w' ⟨rfl, rfl⟩)
      go_ret
      refine ⟨ret_int ?_, rfl⟩
      unfold errB; rw [hl.out, HV.out, if_neg (by omega)]; rfl
  · go_enter Tryd.func55, Tryd.ntmps55
    go_wp2
    go_ret
    refine ⟨ret_int ?_, rfl⟩
    unfold errB; rw [hl.out, if_pos (by omega)]

theorem alongI_even {n : Nat} {s t : Int} (s0 : 0 ≤ s) (t0 : 0 ≤ t) (he : s % 2 = 0) : (s + t) % (n : Int) = (Ln.alongI n s.toNat t.toNat : Nat) := by
  obtain ⟨a, rfl⟩ := Int.eq_ofNat_of_zero_le s0
  obtain ⟨b, rfl⟩ := Int.eq_ofNat_of_zero_le t0
  have : a % 2 = 0 := by omega
  simp only [Ln.alongI, Int.toNat_natCast, if_pos this]
  rw [← Int.natCast_add, ← Int.natCast_emod]
theorem alongI_odd {n : Nat} {s t : Int} (s0 : 0 ≤ s) (t0 : 0 ≤ t) (tn : t ≤ n) (ho : s % 2 = 1) : (s + -t + n) % (n : Int) = (Ln.alongI n s.toNat t.toNat : Nat) := by
  obtain ⟨a, rfl⟩ := Int.eq_ofNat_of_zero_le s0
  obtain ⟨b, rfl⟩ := Int.eq_ofNat_of_zero_le t0
  have : ¬ a % 2 = 0 := by omega
  simp only [Ln.alongI, Int.toNat_natCast, if_neg this]
  have e : (a : Int) + -(b : Int) + (n : Int) = ((a + n - b : Nat) : Int) := by omega
  rw [e, ← Int.natCast_emod]
theorem alongI_lt {n s t : Nat} (hn : 0 < n) : Ln.alongI n s t < n := by
  unfold Ln.alongI
  split <;> exact Nat.mod_lt _ hn
theorem along_at {xs : List Int} {n : Nat} {s t : Nat} {x : Int} (hl : xs.length = n) (hx : xs[Ln.alongI n s t]? = some x) : Ln.along xs s t = x := by
  unfold Ln.along
  rw [hl, List.getD_eq_getElem?_getD, hx]; rfl

set_option maxHeartbeats 400000 in
theorem along_even (A : Option Addr) (n cap : Nat) (xs : List Int) (s t : Int) (w : World) (h : SL w A n xs) (hn : n ≤ 400) (s0 : 0 ≤ s) (sn : s < n) (t0 : 0 ≤ t) (tn : t ≤ n) (he : s % 2 = 0) :
    Calls Tryd.prog 112 #[.slice A n cap, .int .i64 s, .int .i64 t] w fun e w' => e = .returned (.int .i64 (Ln.along xs s.toNat t.toNat)) ∧ Below w.heap.size w w' := by
  have hm := alongI_even (n := n) s0 t0 he
  have hlt := alongI_lt (n := n) (s := s.toNat) (t := t.toNat) (by omega)
  obtain ⟨b, off, x, rfl, hb, hx, hc⟩ := h.at_ hlt
  have HA : Hid (Ln.along xs s.toNat t.toNat = x) := along_at h.1 hx
  clear hx
  generalize Ln.alongI n s.toNat t.toNat = m at hm hlt hc
  have hm2 : (s + t + n) % (n : Int) = m := by rw [Int.add_emod_right]; exact hm
  have hne : ((n : Int) == 0) = false := by rw [beq_eq_false_iff_ne]; omega
  go_enter Tryd.func112, Tryd.ntmps112
  go_wp2
  go_ret
  exact ⟨ret_int HA.out.symm, (Below.refl _ _).alloc (Nat.le_refl _) _⟩

set_option maxHeartbeats 400000 in
theorem along_odd (A : Option Addr) (n cap : Nat) (xs : List Int) (s t : Int) (w : World) (h : SL w A n xs) (hn : n ≤ 400) (s0 : 0 ≤ s) (sn : s < n) (t0 : 0 ≤ t) (tn : t ≤ n) (he : s % 2 = 1) :
    Calls Tryd.prog 112 #[.slice A n cap, .int .i64 s, .int .i64 t] w fun e w' => e = .returned (.int .i64 (Ln.along xs s.toNat t.toNat)) ∧ Below w.heap.size w w' := by
  have hm := alongI_odd (n := n) s0 t0 tn he
  have hlt := alongI_lt (n := n) (s := s.toNat) (t := t.toNat) (by omega)
  obtain ⟨b, off, x, rfl, hb, hx, hc⟩ := h.at_ hlt
  have HA : Hid (Ln.along xs s.toNat t.toNat = x) := along_at h.1 hx
  clear hx
  generalize Ln.alongI n s.toNat t.toNat = m at hm hlt hc
  have hm2 : (s + -t) % (n : Int) = m := by rw [Int.add_emod_right] at hm; exact hm
  go_enter Tryd.func112, Tryd.ntmps112
  go_wp2
  go_ret
  exact ⟨ret_int HA.out.symm, (Below.refl _ _).alloc (Nat.le_refl _) _⟩

theorem along_calls (A : Option Addr) (n cap : Nat) (xs : List Int) (s t : Int) (w : World) (h : SL w A n xs) (hn : n ≤ 400) (s0 : 0 ≤ s) (sn : s < n) (t0 : 0 ≤ t) (tn : t ≤ n) :
    Calls Tryd.prog 112 #[.slice A n cap, .int .i64 s, .int .i64 t] w fun e w' => e = .returned (.int .i64 (Ln.along xs s.toNat t.toNat)) ∧ Below w.heap.size w w' := by
  by_cases he : s % 2 = 0
  · exact along_even A n cap xs s t w h hn s0 sn t0 tn he
  · exact along_odd A n cap xs s t w h hn s0 sn t0 tn (by omega)

/-- No two neighbors are equal, turned round. -/
def cycB (xs : List Int) : Bool := (List.range xs.length).all fun i => !(xs.getD i 0 == xs.getD ((i + 1) % xs.length) 0)
def reducedB (xs : List Int) : Bool := validB 40 xs && cycB xs

theorem range_all_succ {p : Nat → Bool} {j : Nat} : (List.range (j + 1)).all p = ((List.range j).all p && p j) := by
  rw [List.range_succ]; simp

end Go.Proofs.YtbbpockkafbfmaaDoor.Lw

namespace Go.Proofs.YtbbpockkafbfmaaDoor.Lw
open Go.RowKit

theorem infoInt : (Tryd.prog.info? 3).map (fun i => (i.zero, i.size, i.bytes)) = some (some (.int .i64 0), 1, 8) := by kernel_rfl

/-- The integers of a row that the call owns. -/
def OwnI (w : World) (B : Nat) (v : Value) (xs : List Int) : Prop := w.ownsRow B 3 1 v xs.length (xs.map (Value.int .i64))

theorem OwnI.below {w w' : World} {B : Nat} {v : Value} {xs : List Int} (h : OwnI w B v xs) (hb : Below w.heap.size w w') : OwnI w' B v xs := ownsRow_below h hb
theorem OwnI.form {w : World} {B : Nat} {v : Value} {xs : List Int} (h : OwnI w B v xs) : ∃ A c, v = .slice A xs.length c ∧ xs.length ≤ c ∧ (0 < xs.length → ∃ g, A = some ⟨g, 0, none⟩ ∧ B ≤ g ∧ g < w.heap.size) := by
  rcases h.2 with ⟨hv, h0⟩ | ⟨g, cap, cur, hv, hg, hh, hc, _⟩
  · exact ⟨none, 0, by rw [hv, h0], by omega, fun hp => by omega⟩
  · refine ⟨_, _, hv, hc, fun _ => ⟨g, rfl, hg, ?_⟩⟩
    rcases Nat.lt_or_ge g w.heap.size with q | q
    · exact q
    · rw [Array.getElem?_eq_none q] at hh; cases hh
theorem OwnI.sl {w : World} {B n : Nat} {A : Option Addr} {c : Nat} {xs : List Int} (h : OwnI w B (.slice A n c) xs) : SL w A n xs := by
  have hn : n = xs.length := by
    obtain ⟨A', c', hv, _⟩ := h.form
    injection hv
  subst hn
  exact SL.of_own h

theorem wpList_append_ints {w : World} {ops : Array Oper} {rest : List Oper} {o : Oper} {a : Act} {Q : Exit → Act → World → Prop} (hgd : o.guard = none) (s x : Operand)
    (ho : o.op = .call { callee := .builtin .append, args := #[s, x], argTypes := #[28, 28] })
    (B : Nat) (v : Value) (xs : List Int) (hs : a.eval s = v) (hown : OwnI w B v xs)
    (ad : Addr) (m c : Nat) (ys : List Int) (hx : a.eval x = .slice (some ad) m c) (hy : SL w (some ad) m ys)
    (hbig : xs.length + m ≤ 1000000) (hbase : B ≤ w.heap.size)
    (h : ∀ v' w', OwnI w' B v' (xs ++ ys) → w.grownBy w' v.ownBlock → (v'.ownBlock = v.ownBlock ∨ v'.ownBlock = some w.heap.size) → wpList Tryd.prog ops Q rest (a.put o.dst v') w') :
    wpList Tryd.prog ops Q (o :: rest) a w := by
  obtain ⟨i0, hi, hz0, hz1, hz2⟩ := info_parts infoInt
  have hm := hy.1
  refine wpList_append_own_at w hgd s x 28 ho B 3 i0 (.int .i64 0) 1 8 Tryd.underlying28 hi hz0 hz1 hz2 rfl (by decide) v xs.length (xs.map (Value.int .i64)) hs hown ad m c (ys.map (Value.int .i64)) hx (by simp [hm]) ?_ ?_ (by unfold maxLen; omega) (by omega) hbase ?_
  · intro j u hj
    rw [List.getElem?_map] at hj
    have hjl : j < ys.length := by
      rcases Nat.lt_or_ge j ys.length with q | q
      · exact q
      · rw [List.getElem?_eq_none q] at hj; cases hj
    obtain ⟨b, off, y, hA, _, hyj, hc⟩ := hy.at_ (k := j) (by omega)
    obtain rfl : ad = ⟨b, off, none⟩ := by injection hA
    rw [hyj] at hj
    rw [Go.WideShapes.add_plain, hc]
    exact hj
  · intro u hu
    obtain ⟨y, _, rfl⟩ := List.mem_map.1 hu
    rfl
  · intro v' w' h1 h2 _ h4
    refine h v' w' ?_ h2 h4
    unfold OwnI
    rw [List.length_append, List.map_append, hm]
    exact h1

set_option maxHeartbeats 1000000 in
set_option maxRecDepth 100000 in
theorem grow_calls (n : Nat) (w : World) (hp : 0 < n) (hn : n ≤ 100000) :
    Calls Tryd.prog 120 #[.slice none 0 0, .int .i64 n] w fun e w' => ∃ v, e = .returned v ∧ OwnI w' w.heap.size v [] ∧ Below w.heap.size w w' := by
  obtain ⟨i0, hi, hz0, hz1, hz2⟩ := info_parts infoInt
  have hold : (Builtin.firstCells i0.size 0 (.slice none 0 0)).run Tryd.prog w.drew = .ok ([] : List Value).toArray w.drew := run_firstCells_none w.drew i0.size 0 0 0
  have hrz : ∀ ty, (Builtin.append_ #[28, 3] ty #[.slice none 0 0, .int .i64 (n : Int)]).run Tryd.prog w = _ := fun ty =>
    Lib.run_append_grow_zeros w 28 3 ty 3 i0 (.int .i64 0) .i64 .i64 Tryd.underlying28 Tryd.underlying3 hi hz0 none 0 0 [] hold n hp (by omega) (by omega) (by omega) (by rw [hz2]; omega) (by rw [Nat.zero_add]; rw [hz2]; exact growslice_fits hp (by omega))
  simp only [Nat.zero_add] at hrz
  have hG := grownCap_ge w n 0 3
  have hG63 : grownCap w n 0 3 ≤ maxLen := grownCap_le_maxLen w n 0 3 (by unfold maxLen; omega)
  obtain ⟨G, hGe⟩ : ∃ G, G = grownCap w n 0 3 := ⟨_, rfl⟩
  rw [← hGe] at hrz hG hG63
  obtain ⟨cs, hcs⟩ : ∃ cs : Array Value, cs = ([] : List Value).toArray ++ Builtin.zeroCells (Value.int .i64 0).cells n ++ Builtin.zeroCells (Value.int .i64 0).cells (G - n) := ⟨_, rfl⟩
  have hsz : cs.size = G * 1 := by
    rw [hcs]
    simp only [Array.size_append, size_zeroCells, List.size_toArray, List.length_nil]
    have : (Value.int .i64 0).cells.size = 1 := rfl
    rw [this]; omega
  rw [← hcs] at hrz
  have HSZ := Lib.hid hsz
  have HG63 := Lib.hid hG63
  clear hold hGe hcs hsz hG63
  go_enter Tryd.func120, Tryd.ntmps120
  go_wp2_with (at_builtin; refine Lib.wpList_append_run _ rfl _ _ _ _ rfl _ _ rfl rfl _ _ (hrz _) ?_)
  all_goals (go_ret; exact ⟨_, rfl, World.ownsRow_made w.drew cs G (Nat.le_refl _) HG63.out HSZ.out, ((Below.refl _ w).drew).alloc (Nat.le_refl _) _⟩)

/-- What holds at the heads of Concat's second loop. -/
def CRel (w : World) (xs ys : List Int) (v i : Value) (wr : World) : Prop :=
  Below w.heap.size w wr ∧ ((i = .int .i64 0 ∧ OwnI wr w.heap.size v []) ∨ (i = .int .i64 1 ∧ OwnI wr w.heap.size v xs) ∨ (i = .int .i64 2 ∧ OwnI wr w.heap.size v (xs ++ ys)))

theorem grown_below {w wr w' : World} {v : Value} {xs : List Int} (hb : Below w.heap.size w wr) (hown : OwnI wr w.heap.size v xs) (hg : wr.grownBy w' v.ownBlock) : Below w.heap.size w w' :=
  hb.grown hg hb.size (fun k hk => (hown.lt k hk).1)

set_option maxHeartbeats 1000000 in
set_option maxRecDepth 100000 in
theorem concat2_calls (b0 c0 : Nat) (a1 a2 : Addr) (n1 c1 n2 c2 : Nat) (xs ys : List Int) (w : World) (h1 : SL w (some a1) n1 xs) (h2 : SL w (some a2) n2 ys) (hp : 0 < n1 + n2) (hbig : n1 + n2 ≤ 1000)
    (d0 : w.cell? ⟨b0, 0, none⟩ = some (.slice (some a1) n1 c1)) (d1 : w.cell? ⟨b0, 1, none⟩ = some (.slice (some a2) n2 c2)) :
    Calls Tryd.prog 117 #[.slice (some ⟨b0, 0, none⟩) 2 c0] w fun e w' => ∃ v, e = .returned v ∧ OwnI w' w.heap.size v (xs ++ ys) ∧ Below w.heap.size w w' := by
  have hb0 : b0 < w.heap.size := World.block_lt_of_cell? w _ d0
  go_enter Tryd.func117, Tryd.ntmps117
  go_wp2_with fail
  go_loop [3, 11] (fun s i => (i = .int .i64 0 ∧ s = .int .i64 0) ∨ (i = .int .i64 1 ∧ s = .int .i64 n1) ∨ (i = .int .i64 2 ∧ s = .int .i64 ((n1 : Int) + n2))) (fun _ i => 2 - (intOf i).toNat)
  case atStart => exact .inl ⟨rfl, rfl⟩
  case round =>
    rcases hrel with ⟨rfl, rfl⟩ | ⟨rfl, rfl⟩ | ⟨rfl, rfl⟩
    · go_wp2_with fail
      go_round
      case rel => exact .inr (.inl ⟨rfl, rfl⟩)
      case measure => simp [intOf]
    · go_wp2_with fail
      go_round
      case rel => exact .inr (.inr ⟨rfl, rfl⟩)
      case measure => simp [intOf]
    · go_wp2_with fail
      have en : (n1 : Int) + n2 = ((n1 + n2 : Nat) : Int) := by omega
      rw [en]
      clear en
      refine (grow_calls (n1 + n2) w hp (by omega)).mono ?_
      rintro e w1 ⟨v, rfl, hown, hb1⟩
      go_wp2_with fail
      go_loopw [6, 27] (fun v i wr => CRel w xs ys v i wr) (fun _ i _ => 2 - (intOf i).toNat)
      case atStart => exact ⟨hb1, .inl ⟨rfl, hown⟩⟩
      case round =>
        obtain ⟨hbr, hr⟩ := hrel
        have e0 := Lib.hid ((hbr.cell (p := ⟨b0, 0, none⟩) hb0).trans d0)
        have e1 := Lib.hid ((hbr.cell (p := ⟨b0, 1, none⟩) hb0).trans d1)
        have hr1 := h1.below hbr
        have hr2 := h2.below hbr
        clear hown d0 d1
        rcases hr with ⟨rfl, hown⟩ | ⟨rfl, hown⟩ | ⟨rfl, hown⟩
        · have e0' := e0.out
          go_wp2_with (at_builtin; refine wpList_append_ints rfl _ _ rfl w.heap.size _ [] rfl hown a1 n1 c1 xs rfl hr1 ?c1 hbr.size ?_)
          case c1 => simp; omega
          intro v' w' hown' hg _
          have hbn := grown_below hbr hown hg
          have HREL : Hid (CRel w xs ys v' (.int .i64 1) w') := ⟨hbn, .inr (.inl ⟨rfl, hown'⟩)⟩
          clear hown hown' hg e0'
          go_wp2_with fail
          go_roundw
          case rel => exact HREL.out
          case measure => simp [intOf]
        · have e1' := e1.out
          have hx1 := h1.1
          go_wp2_with (at_builtin; refine wpList_append_ints rfl _ _ rfl w.heap.size _ xs rfl hown a2 n2 c2 ys rfl hr2 ?c1 hbr.size ?_)
          case c1 => omega
          intro v' w' hown' hg _
          have hbn := grown_below hbr hown hg
          have HREL : Hid (CRel w xs ys v' (.int .i64 2) w') := ⟨hbn, .inr (.inr ⟨rfl, hown'⟩)⟩
          clear hown hown' hg e1'
          go_wp2_with fail
          go_roundw
          case rel => exact HREL.out
          case measure => simp [intOf]
        · go_wp2_with fail
          go_ret
          exact ⟨_, rfl, hown, hbr⟩

/-- slices.Clone of what reads as a list: a row of the call's own with the same integers. -/
theorem clone_calls (ad : Addr) (n c : Nat) (xs : List Int) (w : World) (h : SL w (some ad) n xs) (hn : n ≤ 100000) :
    Calls Tryd.prog 60 #[.slice (some ad) n c] w fun e w' => ∃ v, e = .returned v ∧ OwnI w' w.heap.size v xs ∧ Below w.heap.size w w' := by
  have hl := h.1
  rcases Nat.eq_zero_or_pos n with h0 | hp
  · subst h0
    have : xs = [] := List.eq_nil_of_length_eq_zero hl
    subst this
    refine (Tryd.slices_Clone_int_zero ad c w).mono ?_
    rintro e w' ⟨v, rfl, ho, _, hb⟩
    exact ⟨v, rfl, ho, hb⟩
  · obtain ⟨b, off, hA, hb, hc⟩ := h.2 hp
    obtain rfl : ad = ⟨b, off, none⟩ := by injection hA
    refine (Tryd.slices_Clone_int b off n c xs w (by omega) (by omega) (fun j hj => by rw [List.getD_eq_getElem?_getD]; exact hc j (by omega))).mono ?_
    rintro e w' ⟨v, rfl, ho, _, hb⟩
    refine ⟨v, rfl, ?_, hb⟩
    rw [List.take_of_length_le (by omega)] at ho
    unfold OwnI
    rw [hl]
    exact ho
theorem clone_nil_calls (n c : Nat) (w : World) :
    Calls Tryd.prog 60 #[.slice none n c] w fun e w' => ∃ v, e = .returned v ∧ OwnI w' w.heap.size v [] ∧ Below w.heap.size w w' := by
  refine (Tryd.slices_Clone_int_nil n c w).mono ?_
  rintro e w' ⟨rfl, rfl⟩
  exact ⟨_, rfl, World.ownsRow_nil _ _ _ _, Below.refl _ _⟩
/-- .. whatever the slice. -/
theorem clone_any (A : Option Addr) (n c : Nat) (xs : List Int) (w : World) (h : SL w A n xs) (hn : n ≤ 100000) :
    Calls Tryd.prog 60 #[.slice A n c] w fun e w' => ∃ v, e = .returned v ∧ OwnI w' w.heap.size v xs ∧ Below w.heap.size w w' := by
  cases A with
  | some ad => exact clone_calls ad n c xs w h hn
  | none =>
    have h0 : n = 0 := by
      rcases Nat.eq_zero_or_pos n with q | q
      · exact q
      · obtain ⟨b, off, hA, _⟩ := h.2 q; cases hA
    subst h0
    have : xs = [] := List.eq_nil_of_length_eq_zero h.1
    subst this
    exact clone_nil_calls 0 c w

theorem madeCells_ints (n : Nat) : (madeCells (Value.int .i64 0).cells (n * 1)).toList = (List.replicate n (0 : Int)).map (Value.int .i64) := by
  apply List.ext_getElem
  · simp [madeCells]
  · intro i h1 h2
    simp [madeCells, Value.cells, Nat.mod_one]

theorem wpList_make_ints {w : World} {ops : Array Oper} {rest : List Oper} {o : Oper} {a : Act} {Q : Exit → Act → World → Prop} (hgd : o.guard = none) (l c : Operand) (ho : o.op = Op.makeSlice 28 l c)
    (n : Nat) (hl : a.eval l = .int .i64 n) (hc : a.eval c = .int .i64 n) (hn : n ≤ 100000)
    (hK : ∀ w', OwnI w' w.heap.size (.slice (some ⟨w.heap.size, 0, none⟩) n n) (List.replicate n 0) → Below w.heap.size w w' → wpList Tryd.prog ops Q rest (a.put o.dst (.slice (some ⟨w.heap.size, 0, none⟩) n n)) w') :
    wpList Tryd.prog ops Q (o :: rest) a w := by
  obtain ⟨i0, hi, hz0, hz1, hz2⟩ := info_parts infoInt
  refine wpList_make_full w hgd l c 28 ho w.heap.size 3 i0 (.int .i64 0) 1 Tryd.underlying28 hi hz0 hz1 .i64 .i64 n n n hl hc rfl rfl (by rw [hz2]; omega) (by unfold maxLen; omega) (Nat.le_refl _) ?_
  intro w' h1 h2
  refine hK w' ?_ ((Below.refl _ _).grown h2 (Nat.le_refl _) (fun k hk => by cases hk))
  unfold OwnI
  rw [List.length_replicate, ← madeCells_ints]
  exact h1
theorem wpList_make0_ints {w : World} {ops : Array Oper} {rest : List Oper} {o : Oper} {a : Act} {Q : Exit → Act → World → Prop} (hgd : o.guard = none) (l c : Operand) (ho : o.op = Op.makeSlice 28 l c)
    (n : Nat) (hl : a.eval l = .int .i64 0) (hc : a.eval c = .int .i64 n) (hn : n ≤ 100000)
    (hK : ∀ w', OwnI w' w.heap.size (.slice (some ⟨w.heap.size, 0, none⟩) 0 n) [] → Below w.heap.size w w' → wpList Tryd.prog ops Q rest (a.put o.dst (.slice (some ⟨w.heap.size, 0, none⟩) 0 n)) w') :
    wpList Tryd.prog ops Q (o :: rest) a w := by
  obtain ⟨i0, hi, hz0, hz1, hz2⟩ := info_parts infoInt
  refine wpList_make_own w hgd l c 28 ho w.heap.size 3 i0 (.int .i64 0) 1 Tryd.underlying28 hi hz0 hz1 .i64 .i64 n n hl hc rfl (by rw [hz2]; omega) (by unfold maxLen; omega) (Nat.le_refl _) ?_
  intro w' h1 h2
  exact hK w' h1 ((Below.refl _ _).grown h2 (Nat.le_refl _) (fun k hk => by cases hk))

/-- The front of what is owned. -/
theorem OwnI.take {w : World} {B g n c : Nat} {xs : List Int} (h : OwnI w B (.slice (some ⟨g, 0, none⟩) n c) xs) {k : Nat} (hk : k ≤ n) : OwnI w B (.slice (some ⟨g, 0, none⟩) k c) (xs.take k) := by
  have hn : n = xs.length := by
    obtain ⟨A', c', hv, _⟩ := h.form
    injection hv
  subst hn
  have hlt : (xs.take k).length = k := by rw [List.length_take]; omega
  refine ⟨by rw [List.length_map, Nat.mul_one], ?_⟩
  rw [hlt]
  rcases h.2 with ⟨hv, h0⟩ | ⟨g', cap, cur, hv, hg, hh, hc, hm, hs, ht⟩
  · cases hv
  · injection hv with e1 e2 e3
    injection e1 with e1
    injection e1 with e1
    subst e1; subst e3
    refine .inr ⟨g, c, cur, rfl, hg, hh, by omega, hm, hs, ?_⟩
    rw [Nat.mul_one] at ht ⊢
    rw [List.map_take, ← ht, List.take_take, Nat.min_eq_left hk]

/-- A cell of what is owned: it reads as the list says, it is not frozen, it lies where only the call writes. -/
theorem OwnI.cell {w : World} {B g n c : Nat} {xs : List Int} (h : OwnI w B (.slice (some ⟨g, 0, none⟩) n c) xs) {k : Nat} (hk : k < n) :
    ∃ x, xs[k]? = some x ∧ w.cell? ⟨g, k, none⟩ = some (.int .i64 x) ∧ w.frozen? ⟨g, k, none⟩ = false ∧ B ≤ g := by
  obtain ⟨b, off, x, hA, _, hx, hc⟩ := h.sl.at_ hk
  injection hA with hA
  injection hA with e1 e2
  subst e1; subst e2
  rw [Nat.zero_add] at hc
  refine ⟨x, hx, hc, ?_, (h.lt g rfl).1⟩
  rcases h.2 with ⟨hv, h0⟩ | ⟨g', cap, cur, hv, hg, hh, _⟩
  · cases hv
  · injection hv with e1
    injection e1 with e1
    injection e1 with e1
    subst e1
    simp [World.frozen?, hh]

/-- A store into what is owned. -/
theorem OwnI.set {w : World} {B g n c : Nat} {xs : List Int} (h : OwnI w B (.slice (some ⟨g, 0, none⟩) n c) xs) {k : Nat} (hk : k < n) (x : Int) :
    OwnI (w.setCell ⟨g, k, none⟩ (.int .i64 x)) B (.slice (some ⟨g, 0, none⟩) n c) (xs.set k x) := by
  have hn : n = xs.length := by
    obtain ⟨A', c', hv, _⟩ := h.form
    injection hv
  subst hn
  rcases h.2 with ⟨hv, h0⟩ | ⟨g', cap, cur, hv, hg, hh, hc, hm, hs, ht⟩
  · cases hv
  · injection hv with e1 e2 e3
    injection e1 with e1
    injection e1 with e1
    subst e1; subst e3
    refine ⟨by simp, .inr ⟨g, c, cur.setIfInBounds k (.int .i64 x), by simp, hg, ?_, by simpa using hc, hm, by simpa using hs, ?_⟩⟩
    · simp [World.setCell, Array.getElem?_modify, hh]
    · rw [Nat.mul_one] at ht ⊢
      rw [List.length_set, Array.toList_setIfInBounds, List.take_set, ht, List.map_set]

end Go.Proofs.YtbbpockkafbfmaaDoor.Lw

namespace Go.Proofs.YtbbpockkafbfmaaDoor.Lw
open Go.RowKit

theorem stk_pop {l s : List Int} {x : Int} (h : Ln.stk l = s ++ [x]) : Ln.stk (l ++ [x]) = s := by
  have hr : Ln.redR l = x :: s.reverse := by
    have := congrArg List.reverse h
    simpa [Ln.stk] using this
  simp [Ln.stk, Ln.redR_snoc, hr, Ln.pushR]
theorem stk_push {l s : List Int} {x y : Int} (h : Ln.stk l = s ++ [y]) (hne : ¬ y = x) : Ln.stk (l ++ [x]) = Ln.stk l ++ [x] := by
  have hr : Ln.redR l = y :: s.reverse := by
    have := congrArg List.reverse h
    simpa [Ln.stk] using this
  simp [Ln.stk, Ln.redR_snoc, hr, Ln.pushR, hne]
theorem stk_push0 {l : List Int} {x : Int} (h : Ln.stk l = []) : Ln.stk (l ++ [x]) = [x] := by
  have hr : Ln.redR l = [] := by simpa [Ln.stk] using h
  simp [Ln.stk, Ln.redR_snoc, hr, Ln.pushR]
theorem snoc_of_last {s : List Int} {m : Nat} {y : Int} (hm : s.length = m) (hp : 0 < m) (hy : s[m - 1]? = some y) : s = s.take (m - 1) ++ [y] := by
  have := List.take_add_one (l := s) (i := m - 1)
  rw [hy, show m - 1 + 1 = m by omega, List.take_of_length_le (by omega)] at this
  exact this

/-- What holds at the heads of the first loop. -/
def StackRel (w : World) (xs : List Int) (n : Nat) (v i : Value) (wr : World) : Prop :=
  ∃ (j m g c : Nat), j ≤ n ∧ i = .int .i64 j ∧ v = .slice (some ⟨g, 0, none⟩) m c ∧ m = (Ln.stk (xs.take j)).length ∧ m ≤ c ∧ OwnI wr w.heap.size v (Ln.stk (xs.take j)) ∧ Below w.heap.size w wr

theorem _root_.Go.Proofs.YtbbpockkafbfmaaDoor.SL.off {w : World} {g m : Nat} {xs : List Int} (h : SL w (some ⟨g, 0, none⟩) m xs) {k : Nat} (hk : k ≤ m) : SL w (some ⟨g, k, none⟩) (m - k) (xs.drop k) := by
  refine ⟨by rw [List.length_drop, h.1], fun hn => ?_⟩
  obtain ⟨b, off, hA, hb, hcell⟩ := h.2 (by omega)
  injection hA with hA
  injection hA with e1 e2
  subst e1; subst e2
  refine ⟨g, k, rfl, hb, fun j hj => ?_⟩
  rw [List.getElem?_drop]
  have := hcell (k + j) (by omega)
  rwa [Nat.zero_add] at this
theorem _root_.Go.Proofs.YtbbpockkafbfmaaDoor.SL.empty {w w' : World} {A A' : Option Addr} {n : Nat} {xs : List Int} (h : SL w A n xs) (h0 : n = 0) : SL w' A' 0 xs := ⟨by rw [h.1, h0], fun hn => by omega⟩
theorem _root_.Go.Proofs.YtbbpockkafbfmaaDoor.SL.one (w : World) (x : Int) (T : TypeId) : SL (w.alloc (.cells #[.int .i64 x] T)) (some ⟨w.heap.size, 0, none⟩) 1 [x] := by
  refine ⟨rfl, fun _ => ⟨w.heap.size, 0, rfl, by simp, fun k hk => ?_⟩⟩
  obtain rfl : k = 0 := by omega
  have := cell_one_new w (.int .i64 x) T 0 (.int .i64 x) rfl
  rw [Go.WideShapes.add_plain] at this
  exact this
/-- What holds at the heads of the second loop: the ends are equal in so many pairs. -/
def CutRel (s : List Int) (m : Nat) (W : World) (i : Value) (wr : World) : Prop :=
  ∃ k q : Nat, i = .int .i64 k ∧ k ≤ m / 2 ∧ (∀ i, i < k → s[i]? = s[m - 1 - i]?) ∧ wr = W.drewN q
theorem CutRel.next {s : List Int} {m : Nat} {W : World} {k q : Nat} (hk : k + 1 ≤ m / 2) (hall : ∀ i, i < k → s[i]? = s[m - 1 - i]?) (he : s[k]? = s[m - 1 - k]?) : CutRel s m W (.int .i64 ((k : Int) + 1)) (W.drewN q) :=
  ⟨k + 1, q, by rw [Int.natCast_add]; rfl, hk, fun i hi => by
    by_cases e : i = k
    · subst e; exact he
    · exact hall i (by omega), rfl⟩

theorem StackRel.push {w wr w' : World} {xs : List Int} {n j m g c : Nat} {x : Int} {v' : Value} {T : TypeId} (hx : xs.take (j + 1) = xs.take j ++ [x]) (hj : j < n) (hs : Ln.stk (xs.take j ++ [x]) = Ln.stk (xs.take j) ++ [x])
    (hm : m = (Ln.stk (xs.take j)).length) (hb : Below w.heap.size w wr) (hown : OwnI wr w.heap.size (.slice (some ⟨g, 0, none⟩) m c) (Ln.stk (xs.take j))) (hown' : OwnI w' w.heap.size v' (Ln.stk (xs.take j) ++ [x]))
    (hg : (wr.alloc (.cells #[.int .i64 x] T)).grownBy w' (Value.slice (some ⟨g, 0, none⟩) m c).ownBlock) :
    ∃ g' c', v' = .slice (some ⟨g', 0, none⟩) (m + 1) c' ∧ StackRel w xs n v' (.int .i64 ((j : Int) + 1)) w' := by
  obtain ⟨A, c', hv, hc, hA⟩ := hown'.form
  rw [List.length_append, List.length_singleton, ← hm] at hv hc hA
  obtain ⟨g', rfl, _, _⟩ := hA (by omega)
  refine ⟨g', c', hv, j + 1, m + 1, g', c', by omega, by rw [Int.natCast_add]; rfl, hv, ?_, hc, ?_, ?_⟩
  · rw [hx, hs, List.length_append, ← hm]; rfl
  · rw [hx, hs]; exact hown'
  · exact grown_below (hb.alloc hb.size _) (hown.below ((Below.refl _ _).alloc (Nat.le_refl _) _)) hg
theorem StackRel.pop {w wr : World} {xs : List Int} {n j m g c : Nat} {x : Int} (hx : xs.take (j + 1) = xs.take j ++ [x]) (hj : j < n) (hmc : m ≤ c) (hp : 0 < m)
    (hm : m = (Ln.stk (xs.take j)).length) (hy : (Ln.stk (xs.take j))[m - 1]? = some x) (hb : Below w.heap.size w wr) (hown : OwnI wr w.heap.size (.slice (some ⟨g, 0, none⟩) m c) (Ln.stk (xs.take j))) :
    StackRel w xs n (.slice (some ⟨g, 0, none⟩) (m - 1) c) (.int .i64 ((j : Int) + 1)) wr := by
  have e := stk_pop (snoc_of_last hm.symm hp hy)
  refine ⟨j + 1, m - 1, g, c, by omega, by rw [Int.natCast_add]; rfl, rfl, ?_, by omega, ?_, hb⟩
  · rw [hx, e, List.length_take]; omega
  · rw [hx, e]; exact hown.take (by omega)

/-- Concat of a row but for its first integers, and of one of these. -/
theorem concat_ends {w W1 : World} {g m c k : Nat} {s : List Int} (hown : OwnI W1 w.heap.size (.slice (some ⟨g, 0, none⟩) m c) s) (N : Nat) (hk : k + k + 2 ≤ m) (hm : m ≤ 400) :
    Calls Tryd.prog 117 #[.slice (some ⟨W1.heap.size, 0, none⟩) 2 2] ((W1.drewN N).alloc (.cells #[.slice (some ⟨g, k + 1, none⟩) (m - k - k - 1) (c - k - 1), .slice (some ⟨g, k, none⟩) 1 (c - k)] 28))
      fun e w' => ∃ v, e = .returned v ∧ OwnI w' ((W1.drewN N).alloc (.cells #[.slice (some ⟨g, k + 1, none⟩) (m - k - k - 1) (c - k - 1), .slice (some ⟨g, k, none⟩) 1 (c - k)] 28)).heap.size v ((s.drop (k + 1)).take (m - k - k - 1) ++ (s.drop k).take 1)
        ∧ Below ((W1.drewN N).alloc (.cells #[.slice (some ⟨g, k + 1, none⟩) (m - k - k - 1) (c - k - 1), .slice (some ⟨g, k, none⟩) 1 (c - k)] 28)).heap.size ((W1.drewN N).alloc (.cells #[.slice (some ⟨g, k + 1, none⟩) (m - k - k - 1) (c - k - 1), .slice (some ⟨g, k, none⟩) 1 (c - k)] 28)) w' := by
  have h1 := ((hown.sl.drewN N).off (k := k + 1) (by omega)).take_ (k := m - k - k - 1) (by omega)
  have h2 := ((hown.sl.drewN N).off (k := k) (by omega)).take_ (k := 1) (by omega)
  refine concat2_calls W1.heap.size 2 ⟨g, k + 1, none⟩ ⟨g, k, none⟩ (m - k - k - 1) (c - k - 1) 1 (c - k) _ _ _ (h1.alloc _) (h2.alloc _) (by omega) (by omega) ?_ ?_
  · exact (Lib.cell_of_heap (heap_alloc_new (W1.drewN N) _) 0).trans rfl
  · exact (Lib.cell_of_heap (heap_alloc_new (W1.drewN N) _) 1).trans rfl

set_option maxHeartbeats 1000000 in
set_option maxRecDepth 100000 in
theorem reduce_calls (A : Option Addr) (n cap : Nat) (xs : List Int) (w : World) (h : SL w A n xs) (hn : n ≤ 400) (he : n % 2 = 0) :
    Calls Tryd.prog 96 #[.slice A n cap] w fun e w' => ∃ A' n' c', e = .returned (.slice A' n' c') ∧ SL w' A' n' (Ln.core2 (Ln.stk xs)) ∧ n' ≤ c' ∧ Below w.heap.size w w' := by
  have HL := Lib.hid h.1
  have HE := Lib.hid he
  clear he
  go_enter Tryd.func96, Tryd.ntmps96
  go_wp2_with (at_make; refine wpList_make0_ints rfl _ _ rfl n rfl rfl (by omega) ?_; intro w0 hown0 hb0)
  go_loopw [3, 14] (fun v i wr => StackRel w xs n v i wr) (fun _ i _ => n - (intOf i).toNat)
  case atStart => exact ⟨0, 0, _, _, Nat.zero_le _, rfl, rfl, rfl, Nat.zero_le _, hown0, hb0⟩
  case round =>
    obtain ⟨j, m, g, c, hj, rfl, rfl, hm, hmc, hown, hb⟩ := hrel
    have HM := Lib.hid hm
    clear hm hown0 hb0
    have hm400 : m ≤ 400 := by
      have := (Ln.length_stk (xs.take j)).2
      rw [List.length_take] at this
      have := HM.out
      omega
    by_cases hlt : j < n
    · obtain ⟨b, off, x, rfl, hbb, hx, hc⟩ := (h.below hb).at_ hlt
      have HX : Hid (xs.take (j + 1) = xs.take j ++ [x]) := by unfold Hid; rw [List.take_add_one, hx]; rfl
      clear hx
      have HOWN := Lib.hid hown
      have hws := hb.size
      rcases Nat.eq_zero_or_pos m with hm0 | hmp
      · have hs : Hid (Ln.stk (xs.take j ++ [x]) = Ln.stk (xs.take j) ++ [x]) := by
          have e0 : Ln.stk (xs.take j) = [] := List.eq_nil_of_length_eq_zero (by rw [← HM.out]; exact hm0)
          unfold Hid; rw [stk_push0 e0, e0]; rfl
        have hmi : (m : Int) - 1 < 0 := by omega
        clear hm0 hown
        go_wp2_with (at_builtin; refine wpList_append_ints rfl _ _ rfl w.heap.size _ (Ln.stk (xs.take j)) rfl (OwnI.below HOWN.out ((Below.refl _ _).alloc (Nat.le_refl _) _)) ⟨wr.heap.size, 0, none⟩ 1 1 [x] rfl ?c0 ?c1 ?c2 ?_)
        case c0 => exact SL.one wr x _
        case c1 => have := HM.out; omega
        case c2 => first | omega | (simp; omega)
        intro v' w' hown' hg _
        obtain ⟨g', c', rfl, hrel⟩ := StackRel.push HX.out hlt hs.out HM.out hb HOWN.out hown' hg
        have HREL := Lib.hid hrel
        clear hown' hg hrel hc
        go_wp2
        go_roundw
        case rel => exact HREL.out
        case measure => simp [intOf]; omega
      · obtain ⟨y, hy, hyc, _, hBg⟩ := hown.cell (k := m - 1) (by omega)
        have HY := Lib.hid hy
        clear hy
        by_cases hxy : y = x
        · subst hxy
          have HREL := Lib.hid (StackRel.pop HX.out hlt hmc hmp HM.out HY.out hb HOWN.out)
          clear hown
          go_wp2
          go_roundw
          case rel => exact HREL.out
          case measure => simp [intOf]; omega
        · have hne : (y == x) = false := by rw [beq_eq_false_iff_ne]; exact hxy
          have hs : Hid (Ln.stk (xs.take j ++ [x]) = Ln.stk (xs.take j) ++ [x]) := stk_push (snoc_of_last HM.out.symm hmp HY.out) hxy
          clear hown hxy
          go_wp2_with (at_builtin; refine wpList_append_ints rfl _ _ rfl w.heap.size _ (Ln.stk (xs.take j)) rfl (OwnI.below HOWN.out ((Below.refl _ _).alloc (Nat.le_refl _) _)) ⟨wr.heap.size, 0, none⟩ 1 1 [x] rfl ?c0 ?c1 ?c2 ?_)
          case c0 => exact SL.one wr x _
          case c1 => have := HM.out; omega
          case c2 => simp; omega
          intro v' w' hown' hg _
          obtain ⟨g', c', rfl, hrel⟩ := StackRel.push HX.out hlt hs.out HM.out hb HOWN.out hown' hg
          have HREL := Lib.hid hrel
          clear hown' hg hrel hc hyc
          go_wp2
          go_roundw
          case rel => exact HREL.out
          case measure => simp [intOf]; omega
    · obtain rfl : j = n := by omega
      have etake : xs.take j = xs := List.take_of_length_le (by rw [HL.out]; omega)
      rw [etake] at HM hown
      clear etake
      go_wp2_with fail
      obtain ⟨W1, hW1⟩ : ∃ W1 : World, W1 = wr := ⟨_, rfl⟩
      obtain rfl := hW1
      go_loopw [7] (fun i w2 => CutRel (Ln.stk xs) m W1 i w2) (fun i _ => m - (intOf i).toNat)
      case atStart => exact ⟨0, 0, rfl, Nat.zero_le _, fun i hi => by omega, rfl⟩
      case round =>
        obtain ⟨k, q, rfl, hk, hall, rfl⟩ := hrel
        have HALL := Lib.hid hall
        clear hall
        by_cases hk2 : k < m / 2
        · obtain ⟨y1, hy1, hc1, _, _⟩ := hown.cell (k := k) (by omega)
          obtain ⟨y2, hy2, hc2, _, _⟩ := hown.cell (k := m - 1 - k) (by omega)
          have HY1 := Lib.hid hy1
          have HY2 := Lib.hid hy2
          have HOWN := Lib.hid hown
          have hki : (k : Int) < (m : Int) / 2 := by omega
          have hkd : decide ((k : Int) < (m : Int) / 2) = true := by simpa using hki
          have hkm : (k : Int) < m := by omega
          have hk1 : 0 ≤ (m : Int) - 1 - k := by omega
          clear hy1 hy2 hown
          by_cases he : y1 = y2
          · subst he
            go_wp2_with fail
            go_quiet (fail)
            go_wp2_with fail
            go_roundw
            case rel => exact CutRel.next (by omega) HALL.out (by rw [HY1.out, HY2.out])
            case measure => simp [intOf]; omega
          · have hne : (y1 == y2) = false := by rw [beq_eq_false_iff_ne]; exact he
            have hstop : Hid (k = m / 2 ∨ (Ln.stk xs)[k]? ≠ (Ln.stk xs)[m - 1 - k]?) := .inr (by rw [HY1.out, HY2.out]; exact fun e => he (by injection e))
            clear he
            go_wp2_with fail
            go_quiet (fail)
            have hfin := Lib.hid (Ln.core2_of_cut xs (by rw [HL.out]; exact HE.out) k (by rw [← HM.out]; exact HALL.out) (by rw [← HM.out]; exact hk) (by rw [← HM.out]; exact hstop.out))
            clear hc1 hc2
            by_cases hodd : k % 2 = 1
            · have ho : ((k : Int) % 2 == 1) = true := by rw [beq_iff_eq]; omega
              have hm2 : k + k + 2 ≤ m := by have := (hfin.out).1 hodd; have := HM.out; have := (Ln.length_stk xs).1; rw [HL.out, ← HM.out] at this; have := HE.out; omega
              have HC := Lib.hid (fun N => concat_ends (c := c) HOWN.out N (k := k) (by omega) (by omega))
              have e9 : Hid (((Ln.stk xs).drop (k + 1)).take (m - k - k - 1) ++ ((Ln.stk xs).drop k).take 1 = Ln.core2 (Ln.stk xs)) := by
                unfold Hid
                rw [hfin.out.2, if_pos hodd, ← HM.out, show m - 2 * k - 1 = m - k - k - 1 by omega]
              clear hodd
              go_wp2_with fail
              go_region_with (refine (HC.out _).mono ?_; rintro e w9 ⟨v9, rfl, hown9, hb9⟩)
              all_goals go_wp2_with fail
              all_goals go_ret
              all_goals
                rw [e9.out] at hown9
                obtain ⟨A', c', rfl, hc', _⟩ := hown9.form
                exact ⟨A', _, c', rfl, hown9.sl, hc', hb.trans (((Go.below_drewN (Below.refl _ _) _).alloc hb.size _).trans (hb9.mono (by have := hb.size; simp; omega)))⟩
            · have ho : ((k : Int) % 2 == 1) = false := by rw [beq_eq_false_iff_ne]; omega
              have hs : Hid (SL (W1.drewN (q + nq)) (some ⟨g, k, none⟩) (m - k - k) (Ln.core2 (Ln.stk xs))) := by
                unfold Hid
                rw [hfin.out.2, if_neg hodd, ← HM.out]
                have h1 := (HOWN.out.sl.off (k := k) (by omega)).take_ (k := m - k - k) (by omega)
                have e2 : m - 2 * k = m - k - k := by omega
                rw [e2]
                exact h1
              clear hodd
              go_wp2_with fail
              go_ret
              exact ⟨_, _, _, rfl, hs.out, by omega, hb.trans (Go.below_drewN (Below.refl _ _) _)⟩
        · have hke : k = m / 2 := by omega
          have hfin := Lib.hid (Ln.core2_of_cut xs (by rw [HL.out]; exact HE.out) k (by rw [← HM.out]; exact HALL.out) (by rw [← HM.out]; exact hk) (by rw [← HM.out]; exact .inl hke))
          have hki : ¬ (k : Int) < (m : Int) / 2 := by omega
          have hkd : decide ((k : Int) < (m : Int) / 2) = false := by simpa using hki
          have hpar : m % 2 = 0 := by have := HM.out; have := (Ln.length_stk xs).1; rw [HL.out, ← HM.out] at this; have := HE.out; omega
          have hodd : ¬ k % 2 = 1 := fun q => by have := (hfin.out).1 q; rw [← HM.out] at this; omega
          have ho : ((k : Int) % 2 == 1) = false := by rw [beq_eq_false_iff_ne]; omega
          have HOWN := Lib.hid hown
          have hs : ∀ N, SL (W1.drewN N) (some ⟨g, k, none⟩) (m - k - k) (Ln.core2 (Ln.stk xs)) := by
            intro N
            rw [hfin.out.2, if_neg hodd, ← HM.out]
            have h1 := ((HOWN.out.sl.drewN N).off (k := k) (by omega)).take_ (k := m - k - k) (by omega)
            have e2 : m - 2 * k = m - k - k := by omega
            rw [e2]
            exact h1
          have HS := Lib.hid hs
          have hkm : k + k = m := by omega
          clear hs hodd hown hke hpar
          go_wp2_with fail
          go_quiet (fail)
          go_wp2_with fail
          all_goals go_ret
          all_goals exact ⟨_, _, _, rfl, (HS.out 0).empty (by omega), by omega, hb.trans (Go.below_drewN (Below.refl _ _) _)⟩

end Go.Proofs.YtbbpockkafbfmaaDoor.Lw

namespace Go.Proofs.YtbbpockkafbfmaaDoor.Lw
open Go.RowKit

/-- -1, 0, 1 for two lists of one length. -/
def cmpL (a b : List Int) : Int := if a = b then 0 else if Ln.lexLt a b then -1 else 1

theorem lexLt_at {x y : Int} (hne : ¬ x = y) : ∀ (j : Nat) (a b : List Int), (∀ i, i < j → a[i]? = b[i]?) → a[j]? = some x → b[j]? = some y → Ln.lexLt a b = decide (x < y) ∧ a ≠ b := by
  intro j
  induction j with
  | zero =>
    intro a b _ ha hb
    cases a with
    | nil => simp at ha
    | cons u l =>
      cases b with
      | nil => simp at hb
      | cons v m =>
        have e1 : u = x := by simpa using ha
        have e2 : v = y := by simpa using hb
        subst e1; subst e2
        exact ⟨by simp [Ln.lexLt, hne], fun e => hne (by injection e)⟩
  | succ j ih =>
    intro a b hall ha hb
    cases a with
    | nil => simp at ha
    | cons u l =>
      cases b with
      | nil => simp at hb
      | cons v m =>
        have e : u = v := by simpa using hall 0 (by omega)
        subst e
        have := ih l m (fun i hi => by simpa using hall (i + 1) (by omega)) (by simpa using ha) (by simpa using hb)
        exact ⟨by simp only [Ln.lexLt, if_true]; exact this.1, fun e => this.2 (by injection e)⟩

theorem cand_at {xs : List Int} {n s j : Nat} (hl : xs.length = n) (hj : j < n) : (Ln.cand xs s)[j]? = some (Ln.along xs s j) := by
  subst hl
  simp [Ln.cand, hj]
theorem cmpL_diff {xs : List Int} {n s t j : Nat} (hl : xs.length = n) (hj : j < n) (hall : ∀ i, i < j → Ln.along xs s i = Ln.along xs t i) (hne : ¬ Ln.along xs s j = Ln.along xs t j) :
    cmpL (Ln.cand xs s) (Ln.cand xs t) = Lib.compareInt (Ln.along xs s j) (Ln.along xs t j) := by
  obtain ⟨h1, h2⟩ := lexLt_at hne j (Ln.cand xs s) (Ln.cand xs t) (fun i hi => by rw [cand_at hl (by omega), cand_at hl (by omega), hall i hi]) (cand_at hl hj) (cand_at hl hj)
  unfold cmpL Lib.compareInt
  rw [if_neg h2, h1]
  by_cases q : Ln.along xs s j < Ln.along xs t j
  · simp [q]
  · have : Ln.along xs s j > Ln.along xs t j := by omega
    simp [q, this]
theorem cmpL_same {xs : List Int} {n s t : Nat} (hl : xs.length = n) (hall : ∀ i, i < n → Ln.along xs s i = Ln.along xs t i) : cmpL (Ln.cand xs s) (Ln.cand xs t) = 0 := by
  have : Ln.cand xs s = Ln.cand xs t := by
    apply List.ext_getElem?
    intro i
    by_cases hi : i < n
    · rw [cand_at hl hi, cand_at hl hi, hall i hi]
    · rw [List.getElem?_eq_none (by rw [Ln.length_cand]; omega), List.getElem?_eq_none (by rw [Ln.length_cand]; omega)]
  unfold cmpL
  rw [if_pos this]

theorem along_any (A : Option Addr) (n cap : Nat) (xs : List Int) (s j : Nat) (w : World) (h : SL w A n xs) (hn : n ≤ 400) (hs : s < n) (hj : j ≤ n) :
    ∀ W, Below w.heap.size w W → Calls Tryd.prog 112 #[.slice A n cap, .int .i64 s, .int .i64 j] W fun e w' => e = .returned (.int .i64 (Ln.along xs s j)) ∧ Below W.heap.size W w' := by
  intro W hW
  have := along_calls A n cap xs s j W (h.below hW) hn (by omega) (by omega) (by omega) (by omega)
  simpa only [Int.toNat_natCast] using this

/-- What holds at the heads of the comparison's loop. -/
def CmpRel (xs : List Int) (n s t : Nat) (w : World) (i : Value) (wr : World) : Prop :=
  ∃ j : Nat, i = .int .i64 j ∧ j ≤ n ∧ (∀ i, i < j → Ln.along xs s i = Ln.along xs t i) ∧ Below w.heap.size w wr

set_option maxHeartbeats 1000000 in
set_option maxRecDepth 100000 in
theorem compare_calls (bw : Nat) (A : Option Addr) (n cap : Nat) (xs : List Int) (s t : Nat) (w : World) (hbox : w.cell? ⟨bw, 0, none⟩ = some (.slice A n cap)) (h : SL w A n xs) (hn : n ≤ 400) (hs : s < n) (ht : t < n) :
    Calls Tryd.prog 116 #[.int .i64 s, .int .i64 t, .pointer (some ⟨bw, 0, none⟩)] w fun e w' => e = .returned (.int .i64 (cmpL (Ln.cand xs s) (Ln.cand xs t))) ∧ Below w.heap.size w w' := by
  have HL := Lib.hid h.1
  have hbw : bw < w.heap.size := World.block_lt_of_cell? w _ hbox
  have HBOX := Lib.hid hbox
  go_enter Tryd.func116, Tryd.ntmps116
  go_wp2_with fail
  go_loopw [10] (fun i wr => CmpRel xs n s t w i wr) (fun i _ => n - (intOf i).toNat)
  case atStart => exact ⟨0, rfl, Nat.zero_le _, fun i hi => by omega, Below.refl _ _⟩
  case round =>
    obtain ⟨j, rfl, hj, hall, hb⟩ := hrel
    have HALL := Lib.hid hall
    clear hall hbox
    by_cases hlt : j < n
    · have hb2 : wr.cell? ⟨bw, 0, none⟩ = some (.slice A n cap) := (hb.cell (p := ⟨bw, 0, none⟩) hbw).trans HBOX.out
      have HA1 := Lib.hid (along_any A n cap xs s j w h hn hs hj)
      have HA2 := Lib.hid (along_any A n cap xs t j w h hn ht hj)
      have hbox' : ∀ W, Below w.heap.size w W → W.cell? ⟨bw, 0, none⟩ = some (.slice A n cap) := fun W hW => (hW.cell (p := ⟨bw, 0, none⟩) hbw).trans HBOX.out
      have HBX := Lib.hid hbox'
      clear hbox'
      by_cases hxy : Ln.along xs s j = Ln.along xs t j
      · have HREL : ∀ W, Below w.heap.size w W → CmpRel xs n s t w (.int .i64 ((j : Int) + 1)) W := fun W hW =>
          ⟨j + 1, by rw [Int.natCast_add]; rfl, by omega, fun i hi => by
            by_cases e : i = j
            · subst e; exact hxy
            · exact HALL.out i (by omega), hW⟩
        have HRH := Lib.hid HREL
        have HC0 : Hid (Lib.compareInt (Ln.along xs s j) (Ln.along xs t j) = 0) := by unfold Hid; rw [hxy]; simp [Lib.compareInt]
        clear HREL hxy
        go_wp2_with fail
        go_region_with (first
          | ((with_reducible refine (HA1.out wr.drew hb.drew).mono ?_); rintro e w1 ⟨rfl, hb1⟩; have q1 := HBX.out w1 ((hb.drew).trans (hb1.mono hb.size)); have hbw1 : Below w.heap.size w w1 := (hb.drew).trans (hb1.mono hb.size))
          | ((with_reducible refine (HA2.out w1 hbw1).mono ?_); rintro e w2 ⟨rfl, hb3⟩; have hbw2 : Below w.heap.size w w2 := hbw1.trans (hb3.mono hbw1.size))
          | ((with_reducible refine (Tryd.cmp_Compare_int _ _ _).mono ?_); rw [HC0.out]; rintro e w3 ⟨rfl, rfl⟩))
        all_goals
          go_wp2_with fail
          go_roundw
          case rel => exact HRH.out _ hbw2
          case measure => simp [intOf]; omega
      · have hq : ∃ q, Lib.compareInt (Ln.along xs s j) (Ln.along xs t j) = q := ⟨_, rfl⟩
        obtain ⟨q, hq⟩ := hq
        have hq0 : (q != 0) = true := by
          rw [bne_iff_ne, ← hq]
          unfold Lib.compareInt
          split
          · omega
          · split <;> omega
        have HC0 : Hid (Lib.compareInt (Ln.along xs s j) (Ln.along xs t j) = q) := hq
        have HRES : Hid (cmpL (Ln.cand xs s) (Ln.cand xs t) = q) := by unfold Hid; rw [cmpL_diff HL.out hlt HALL.out hxy, hq]
        clear hq hxy
        go_wp2_with fail
        go_region_with (first
          | ((with_reducible refine (HA1.out wr.drew hb.drew).mono ?_); rintro e w1 ⟨rfl, hb1⟩; have q1 := HBX.out w1 ((hb.drew).trans (hb1.mono hb.size)); have hbw1 : Below w.heap.size w w1 := (hb.drew).trans (hb1.mono hb.size))
          | ((with_reducible refine (HA2.out w1 hbw1).mono ?_); rintro e w2 ⟨rfl, hb3⟩; have hbw2 : Below w.heap.size w w2 := hbw1.trans (hb3.mono hbw1.size))
          | ((with_reducible refine (Tryd.cmp_Compare_int _ _ _).mono ?_); rw [HC0.out]; rintro e w3 ⟨rfl, rfl⟩))
        all_goals
          go_wp2_with fail
          go_ret
          exact ⟨ret_int HRES.out.symm, hbw2⟩
    · go_wp2_with fail
      go_ret
      exact ⟨ret_int (cmpL_same HL.out (fun i hi => HALL.out i (by omega))).symm, hb⟩

end Go.Proofs.YtbbpockkafbfmaaDoor.Lw

namespace Go.Proofs.YtbbpockkafbfmaaDoor.Lw
open Go.RowKit

theorem OwnI.mono {w : World} {B B' : Nat} {v : Value} {xs : List Int} (h : OwnI w B v xs) (hB : B' ≤ B) : OwnI w B' v xs := by
  refine ⟨h.1, ?_⟩
  rcases h.2 with hn | ⟨g, cap, cur, hv, hg, r⟩
  · exact .inl hn
  · exact .inr ⟨g, cap, cur, hv, by omega, r⟩

/-- What a list holds that is filled from the front. -/
def fillL (f : Nat → Int) (n j : Nat) : List Int := (List.range n).map fun i => if i < j then f i else 0
theorem fillL_length (f : Nat → Int) (n j : Nat) : (fillL f n j).length = n := by simp [fillL]
theorem fillL_zero (f : Nat → Int) (n : Nat) : fillL f n 0 = List.replicate n 0 := by
  apply List.ext_getElem
  · simp [fillL]
  · intro i h1 h2; simp [fillL]
theorem fillL_full (f : Nat → Int) (n : Nat) : fillL f n n = (List.range n).map f := by
  apply List.ext_getElem
  · simp [fillL]
  · intro i h1 h2
    have : i < n := by simpa [fillL] using h1
    simp [fillL, this]
theorem fillL_set (f : Nat → Int) (n j : Nat) : (fillL f n j).set j (f j) = fillL f n (j + 1) := by
  apply List.ext_getElem
  · simp [fillL]
  · intro i h1 h2
    have hi : i < n := by simpa [fillL] using h1
    rw [List.getElem_set]
    by_cases e : j = i
    · subst e; simp [fillL]
    · rw [if_neg e]
      simp only [fillL, List.getElem_map, List.getElem_range]
      by_cases q : i < j
      · rw [if_pos q, if_pos (by omega)]
      · rw [if_neg q, if_neg (by omega)]

def BestRel (xs : List Int) (n : Nat) (W0 : World) (st i : Value) (wr : World) : Prop :=
  ∃ j : Nat, j ≤ n ∧ i = .int .i64 j ∧ st = .int .i64 (Ln.bestTo xs j : Nat) ∧ Below W0.heap.size W0 wr
def FillRel (f : Nat → Int) (n : Nat) (W0 : World) (B g : Nat) (i : Value) (wr : World) : Prop :=
  ∃ j : Nat, j ≤ n ∧ i = .int .i64 j ∧ OwnI wr B (.slice (some ⟨g, 0, none⟩) n n) (fillL f n j) ∧ Below W0.heap.size W0 wr

set_option maxHeartbeats 1000000 in
set_option maxRecDepth 100000 in
theorem least_calls (A : Option Addr) (n cap : Nat) (xs : List Int) (w : World) (h : SL w A n xs) (hn : n ≤ 400) :
    Calls Tryd.prog 95 #[.slice A n cap] w fun e w' => ∃ v, e = .returned v ∧ OwnI w' w.heap.size v (Ln.least xs) ∧ Below w.heap.size w w' := by
  have HL := Lib.hid h.1
  have hmf : ∀ (fn : Fn) (first cap : Array Value) (w : World), (Instr.makeFunc fn first cap).run Tryd.prog w = .ok (.func fn first cap) w := fun _ _ _ _ => rfl
  obtain ⟨W0, hW0⟩ : ∃ W0, W0 = w.alloc (.cells #[.slice A n cap] 28) := ⟨_, rfl⟩
  have hbox : W0.cell? ⟨w.heap.size, 0, none⟩ = some (.slice A n cap) := by rw [hW0]; exact (Lib.cell_of_heap (heap_alloc_new w _) 0).trans rfl
  have hz : W0.heap.size = w.heap.size + 1 := by rw [hW0]; simp
  have hsl : SL W0 A n xs := by rw [hW0]; exact h.alloc _
  have hbw : Below w.heap.size w W0 := by rw [hW0]; exact (Below.refl _ _).alloc (Nat.le_refl _) _
  have HW0 := Lib.hid hW0
  have HZ := Lib.hid hz
  clear hW0 hz
  go_enter Tryd.func95, Tryd.ntmps95
  go_wp2_with fail
  rw [← HW0.out]
  go_loopw [4, 11] (fun st i wr => BestRel xs n W0 st i wr) (fun _ i _ => n - (intOf i).toNat)
  case atStart => exact ⟨0, Nat.zero_le _, rfl, rfl, Below.refl _ _⟩
  case round =>
    obtain ⟨j, hj, rfl, rfl, hb⟩ := hrel
    have hbj := Ln.bestTo_le xs j
    have hboxr : wr.cell? ⟨w.heap.size, 0, none⟩ = some (.slice A n cap) := (hb.cell (p := ⟨w.heap.size, 0, none⟩) (by have := HZ.out; show w.heap.size < W0.heap.size; omega)).trans hbox
    by_cases hlt : j < n
    · have HC := Lib.hid (compare_calls w.heap.size A n cap xs j (Ln.bestTo xs j) wr hboxr (hsl.below hb) hn hlt (by omega))
      cases hx : Ln.lexLt (Ln.cand xs j) (Ln.cand xs (Ln.bestTo xs j)) with
      | true =>
        have hc : cmpL (Ln.cand xs j) (Ln.cand xs (Ln.bestTo xs j)) = -1 := by
          unfold cmpL
          rw [if_neg, if_pos hx]
          intro e; rw [e, Ln.lexLt_irrefl] at hx; cases hx
        have HS : Hid (Ln.bestTo xs (j + 1) = j) := by unfold Hid; rw [Ln.bestTo, if_pos hx]
        have HCC := Lib.hid hc
        clear hx hc
        go_wp2_with (go_at_call 116; refine HC.out.mono ?_; rw [HCC.out]; rintro e w1 ⟨rfl, hb1⟩)
        go_roundw
        case rel => exact ⟨j + 1, by omega, by rw [Int.natCast_add]; rfl, by rw [HS.out], hb.trans (hb1.mono hb.size)⟩
        case measure => simp [intOf]; omega
      | false =>
        have hc : 0 ≤ cmpL (Ln.cand xs j) (Ln.cand xs (Ln.bestTo xs j)) := by
          unfold cmpL
          split
          · omega
          · rw [hx]; simp
        have HS : Hid (Ln.bestTo xs (j + 1) = Ln.bestTo xs j) := by unfold Hid; rw [Ln.bestTo, if_neg (by rw [hx]; simp)]
        obtain ⟨q, hq⟩ : ∃ q, cmpL (Ln.cand xs j) (Ln.cand xs (Ln.bestTo xs j)) = q := ⟨_, rfl⟩
        rw [hq] at hc
        have HQ := Lib.hid hq
        clear hx hq
        go_wp2_with (go_at_call 116; refine HC.out.mono ?_; rw [HQ.out]; rintro e w1 ⟨rfl, hb1⟩)
        go_roundw
        case rel => exact ⟨j + 1, by omega, by rw [Int.natCast_add]; rfl, by rw [HS.out], hb.trans (hb1.mono hb.size)⟩
        case measure => simp [intOf]; omega
    · obtain ⟨wo, hwo⟩ : ∃ wo : World, wo = wr := ⟨_, rfl⟩
      obtain rfl := hwo
      obtain rfl : j = n := by omega
      have hbest : Ln.bestTo xs j < j ∨ j = 0 := by
        rcases Nat.eq_zero_or_pos j with q | q
        · exact .inr q
        · exact .inl (Ln.bestTo_lt xs j q)
      have HBEST := Lib.hid hbest
      have HBL := Lib.hid hbj
      obtain ⟨st, hst⟩ : ∃ st, Ln.bestTo xs j = st := ⟨_, rfl⟩
      have HST := Lib.hid hst
      rw [hst]
      clear hst hbest hbj
      have hlt1 : w.heap.size < wo.heap.size := by have := HZ.out; have := hb.size; omega
      go_wp2_with (at_make; refine wpList_make_ints rfl _ _ rfl j rfl rfl (by omega) ?_; intro W1 hown1 hb1; have hbox1 := (hb1.cell (p := ⟨w.heap.size, 0, none⟩) hlt1).trans hboxr)
      have hb01 : Below W0.heap.size W0 W1 := hb.trans (hb1.mono hb.size)
      go_loopw [26] (fun i wr => FillRel (Ln.along xs st) j W0 wo.heap.size wo.heap.size i wr) (fun i _ => j - (intOf i).toNat)
      case atStart => exact ⟨0, Nat.zero_le _, rfl, by rw [fillL_zero]; exact hown1, hb01⟩
      case round =>
        obtain ⟨k, hk, rfl, hown, hb2⟩ := hrel
        have HOWN := Lib.hid hown
        have hbox2 : wr.cell? ⟨w.heap.size, 0, none⟩ = some (.slice A j cap) := (hb2.cell (p := ⟨w.heap.size, 0, none⟩) (by have := HZ.out; show w.heap.size < W0.heap.size; omega)).trans hbox
        clear hbox1 hboxr hown1 hbox
        by_cases hkj : k < j
        · have hstj : st < j := by have := HBEST.out; have := HST.out; omega
          have HA := Lib.hid (along_any A j cap xs st k wr (hsl.below hb2) hn hstj (by omega) wr (Below.refl _ _))
          have hsz2 := hb2.size
          have hszr := hb.size
          clear hown
          go_wp2_with (go_at_call 112; refine HA.out.mono ?_; rintro e w3 ⟨rfl, hb3⟩; have hown3 := (HOWN.out.below hb3); obtain ⟨y, hy, hyc, hyf, hyg⟩ := hown3.cell (k := k) hkj)
          have HREL : Hid (FillRel (Ln.along xs st) j W0 wo.heap.size wo.heap.size (.int .i64 ((k : Int) + 1)) (w3.setCell ⟨wo.heap.size, k, none⟩ (.int .i64 (Ln.along xs st k)))) :=
            ⟨k + 1, by omega, by rw [Int.natCast_add]; rfl, by rw [← fillL_set]; exact hown3.set hkj _, (hb2.trans (hb3.mono hsz2)).setCell (p := ⟨wo.heap.size, k, none⟩) hszr _⟩
          clear hyc hyf hown3 hy
          go_roundw
          case rel => exact HREL.out
          case measure => simp [intOf]; omega
        · obtain rfl : k = j := by omega
          go_wp2_with fail
          go_ret
          refine ⟨_, rfl, ?_, hbw.trans (hb2.mono (by have := HZ.out; omega))⟩
          rw [fillL_full] at hown
          have hh : Ln.least xs = (List.range k).map (Ln.along xs st) := by
            unfold Ln.least Ln.cand Ln.best
            rw [HL.out, HST.out]
          rw [hh]
          exact hown.mono (by omega)

/-- What a function leaves that returns a list and an error: the list is empty with an error. -/
def ErrPost (w : World) (er : Int) (res : List Int) (e : Ending) (w' : World) : Prop :=
  ∃ v, e = .returned (.tuple #[v, .int .i64 er]) ∧ OwnI w' w.heap.size v (if er = 0 then res else []) ∧ Below w.heap.size w w'
theorem ErrPost.ok {w w' : World} {er : Int} {res : List Int} {v : Value} (he : er = 0) (h : OwnI w' w.heap.size v res) (hb : Below w.heap.size w w') : ErrPost w er res (.returned (.tuple #[v, .int .i64 0])) w' :=
  ⟨v, by rw [he], by rw [if_pos he]; exact h, hb⟩
theorem ErrPost.err {w w' : World} {er : Int} {res : List Int} (he : ¬ er = 0) (hb : Below w.heap.size w w') : ErrPost w er res (.returned (.tuple #[.slice none 0 0, .int .i64 er])) w' :=
  ⟨_, rfl, by rw [if_neg he]; exact World.ownsRow_nil _ _ _ _, hb⟩

theorem ErrPost.get_ok {w w' : World} {er : Int} {res : List Int} {e : Ending} {n : Nat} (he : er = 0) (hl : res.length = n) (h : ErrPost w er res e w') :
    ∃ A c, e = .returned (.tuple #[.slice A n c, .int .i64 0]) ∧ OwnI w' w.heap.size (.slice A n c) res ∧ n ≤ c ∧ Below w.heap.size w w' := by
  obtain ⟨v, hv, hown, hb⟩ := h
  rw [if_pos he] at hown
  obtain ⟨A, c, rfl, hc, _⟩ := hown.form
  subst hl
  exact ⟨A, c, by rw [hv, he], hown, hc, hb⟩
theorem ErrPost.get_err {w w' : World} {er : Int} {res : List Int} {e : Ending} (he : ¬ er = 0) (h : ErrPost w er res e w') :
    ∃ A c, e = .returned (.tuple #[.slice A 0 c, .int .i64 er]) ∧ Below w.heap.size w w' := by
  obtain ⟨v, hv, hown, hb⟩ := h
  rw [if_neg he] at hown
  obtain ⟨A, c, rfl, hc, _⟩ := hown.form
  exact ⟨A, c, hv, hb⟩

theorem errB_ok {k : Int} {xs : List Int} {n : Nat} (hl : xs.length = n) (h : errB k xs = 0) : validB k xs = true ∧ n ≤ 400 ∧ n % 2 = 0 ∧ 0 ≤ k ∧ k ≤ 40 := by
  unfold errB at h
  split at h
  · omega
  · split at h
    · rename_i q
      refine ⟨q, ?_⟩
      unfold validB at q
      simp only [Bool.and_eq_true, decide_eq_true_eq] at q
      rw [hl] at q
      omega
    · omega

set_option maxHeartbeats 1000000 in
set_option maxRecDepth 100000 in
/-- line.Normal: the error, or the normal form. -/
theorem normal_calls (A : Option Addr) (n cap : Nat) (xs : List Int) (w : World) (h : SL w A n xs) (hn : n ≤ maxLen) :
    Calls Tryd.prog 63 #[.slice A n cap] w (ErrPost w (errB 40 xs) (Ln.normal xs)) := by
  have HL := Lib.hid h.1
  have HC := Lib.hid (check_calls 40 A n cap xs w h hn)
  by_cases he : errB 40 xs = 0
  · have h4 := errB_ok h.1 he
    have HE := Lib.hid he
    have HR := Lib.hid (reduce_calls A n cap xs w h h4.2.1 h4.2.2.1)
    have H4 := Lib.hid h4
    clear he h4
    go_enter Tryd.func63, Tryd.ntmps63
    go_wp2_with (first
      | (go_at_call 55; refine HC.out.mono ?_; rw [HE.out]; rintro e w' ⟨rfl, rfl⟩)
      | (go_at_call 96; refine HR.out.mono ?_; rintro e w1 ⟨A1, n1, c1, rfl, hs1, hnc1, hb1⟩; have hn1 : n1 ≤ 400 := by have e1 := hs1.1; have e2 := (Ln.length_core2 (Ln.stk xs)).2; have e3 := (Ln.length_stk xs).2; have e4 := HL.out; have e5 := H4.out.2.1; omega)
      | (go_at_call 95; refine (least_calls A1 n1 c1 _ w1 hs1 hn1).mono ?_; rintro e w2 ⟨v, rfl, hown2, hb2⟩))
    go_ret2
    exact ErrPost.ok HE.out (hown2.mono hb1.size) (hb1.trans (hb2.mono hb1.size))
  · have hne : (errB 40 xs != 0) = true := by rw [bne_iff_ne]; exact he
    have HN := Lib.hid he
    clear he
    go_enter Tryd.func63, Tryd.ntmps63
    go_wp2_with (go_at_call 55; refine HC.out.mono ?_; rintro e w' ⟨rfl, rfl⟩)
    go_ret2
    exact ErrPost.err HN.out (Below.refl _ _)

end Go.Proofs.YtbbpockkafbfmaaDoor.Lw
