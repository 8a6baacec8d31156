/-
  The walks of the reference's Copy, Swap.
-/
import Derived.Test.YtjdabkniojmacaaDoorEarly
import Derived.Test.YtjdabkniojmacaaDoorVal
import Derived.Deep.RegionLaw
import Derived.Laws.AppendOwnNone
namespace Go.Proofs.YtjdabkniojmacaaDoor
open Go.RowKit

theorem LS.flatR {w : World} {b off n : Nat} {ls : List Lt} (h : LS w (some ⟨b, off, none⟩) n ls) {j : Nat} {u : Value} (hu : (ls.flatMap ltCells)[j]? = some u) : w.cell? ⟨b, off + j, none⟩ = some u := by
  have hjl : j < ls.length * 6 := by
    rcases Nat.lt_or_ge j (ls.flatMap ltCells).length with q | q
    · rw [letters_len] at q; exact q
    · rw [List.getElem?_eq_none q] at hu; cases hu
  have hn := h.1
  obtain ⟨b', off', l, hA, _, hl, c0, c1, c2, c3, c4, c5⟩ := h.at_ (k := j / 6) (by omega)
  injection hA with hA
  injection hA with e1 e2
  subst e1; subst e2
  have hi : j = j / 6 * 6 + j % 6 := by omega
  have hx : ∀ i x, i = j % 6 → (ltCells l)[i]? = some x → u = x := by
    intro i x hi' hx
    have := letters_at hl i x hx
    rw [hi', ← hi, hu] at this
    injection this
  have h6 : j % 6 = 0 ∨ j % 6 = 1 ∨ j % 6 = 2 ∨ j % 6 = 3 ∨ j % 6 = 4 ∨ j % 6 = 5 := by omega
  rcases h6 with q | q | q | q | q | q
  · rw [hx 0 _ q.symm rfl, show off + j = off + j / 6 * 6 by omega]; exact c0
  · rw [hx 1 _ q.symm rfl, show off + j = off + j / 6 * 6 + 1 by omega]; exact c1
  · rw [hx 2 _ q.symm rfl, show off + j = off + j / 6 * 6 + 2 by omega]; exact c2
  · rw [hx 3 _ q.symm rfl, show off + j = off + j / 6 * 6 + 3 by omega]; exact c3
  · rw [hx 4 _ q.symm rfl, show off + j = off + j / 6 * 6 + 4 by omega]; exact c4
  · rw [hx 5 _ q.symm rfl, show off + j = off + j / 6 * 6 + 5 by omega]; exact c5
theorem ltCells_oneR {ls : List Lt} : ∀ u ∈ ls.flatMap ltCells, u.oneCell' = true := by
  intro u hu
  obtain ⟨l, _, hu⟩ := List.mem_flatMap.1 hu
  simp only [ltCells, List.mem_cons, List.not_mem_nil, or_false] at hu
  rcases hu with rfl | rfl | rfl | rfl | rfl | rfl <;> rfl
theorem OwnL.lsR {w : World} {B gL n cp : Nat} {L : List Lt} (h : OwnL w B (.slice (some ⟨gL, 0, none⟩) n cp) L) (hn : L.length = n) : LS w (some ⟨gL, 0, none⟩) n L := by
  subst hn
  refine ⟨rfl, fun _ => ⟨gL, 0, rfl, (World.ownsRow.lt h gL rfl).2, fun k l hk => ?_⟩⟩
  have c : ∀ i x, (ltCells l)[i]? = some x → w.cell? ⟨gL, k * 6 + i, none⟩ = some x := fun i x hx => (ownsRow_cell h (letters_at hk i x hx)).1
  rw [Nat.zero_add]
  exact ⟨c 0 _ rfl, c 1 _ rfl, c 2 _ rfl, c 3 _ rfl, c 4 _ rfl, c 5 _ rfl⟩

set_option maxRecDepth 100000 in
/-- An append of letters inside a region whose order is drawn. -/
theorem step_append_lts {w : World} {ops : Array Oper} {o : Oper} {a : Act} {K : Act → World → Prop} {Q : Exit → Act → World → Prop} {E : Prop} (hgd : o.guard = none) (s x : Operand)
    (ho : o.op = .call { callee := .builtin .append, args := #[s, x], argTypes := #[22, 22] })
    (B : Nat) (v : Value) (xs : List Lt) (hs : a.eval s = v) (hown : OwnL w B v xs)
    (b off m c : Nat) (ys : List Lt) (hx : a.eval x = .slice (some ⟨b, off, none⟩) m c) (hy : LS w (some ⟨b, off, none⟩) m ys)
    (hbig : xs.length + m ≤ 1000000) (hbase : B ≤ w.heap.size)
    (h : ∀ v' w', OwnL w' B v' (xs ++ ys) → w.grownBy w' v.ownBlock → K (a.put o.dst v') w') :
    if Region.wanted o (yielded ops a.tmps) = true then Oper.wp Tryd.prog o a w K Q else E := by
  have hw : Region.wanted o (yielded ops a.tmps) = true := by simp [Region.wanted, hgd]
  rw [if_pos hw]
  obtain ⟨i0, hi, hz0, hz1, hz2⟩ := info_parts infoLetter
  have hm := hy.1
  unfold OwnL at hown
  refine wp_append_own w s x 22 ho B 48 i0 (.agg #[.int .i64 0, .int .i64 0, .int .i64 0, .int .i64 0, .int .i64 0, .bool false]) 6 48 Tryd.underlying22 hi hz0 hz1 hz2 rfl (by decide) v xs.length (xs.flatMap ltCells) hs hown ⟨b, off, none⟩ m c (ys.flatMap ltCells) hx (by rw [letters_len, hm]) (fun j u hu => by rw [Go.WideShapes.add_plain]; exact hy.flatR hu) ltCells_oneR (by unfold maxLen; omega) (by omega) hbase ?_
  intro v' w' h1 h2 _
  refine h v' w' ?_ h2
  unfold OwnL
  rw [List.length_append, List.flatMap_append, hm]
  exact h1
set_option maxRecDepth 100000 in
/-- .. of nothing. -/
theorem step_append_ltsN {w : World} {ops : Array Oper} {o : Oper} {a : Act} {K : Act → World → Prop} {Q : Exit → Act → World → Prop} {E : Prop} (hgd : o.guard = none) (s x : Operand)
    (ho : o.op = .call { callee := .builtin .append, args := #[s, x], argTypes := #[22, 22] })
    (B : Nat) (v : Value) (xs : List Lt) (hs : a.eval s = v) (hown : OwnL w B v xs) (hx : a.eval x = .slice none 0 0)
    (h : K (a.put o.dst v) w) : if Region.wanted o (yielded ops a.tmps) = true then Oper.wp Tryd.prog o a w K Q else E := by
  have hw : Region.wanted o (yielded ops a.tmps) = true := by simp [Region.wanted, hgd]
  rw [if_pos hw]
  obtain ⟨i0, hi, hz0, hz1, hz2⟩ := info_parts infoLetter
  unfold OwnL at hown
  have hrun := run_append_owned_none (P := Tryd.prog) (w := w) B 22 o.type 48 i0 6 Tryd.underlying22 hi v xs.length (xs.flatMap ltCells) hown
  unfold Oper.wp
  simp [execOp, ho, resolve, invoke, builtin, hs, hx, hrun, Result.andThen]
  exact h
theorem OwnL.nil (w : World) (B : Nat) : OwnL w B (.slice none 0 0) [] := World.ownsRow_nil _ _ _ _

set_option maxHeartbeats 4000000 in
set_option maxRecDepth 100000 in
theorem refCopy_calls (f : Int) (A : Option Addr) (n c : Nat) (ls : List Lt) (w : World) (hL : LS w A n ls) (hz : A = none → c = 0) (hsp : ∀ a, A = some a → a.spot = none) (hn : n ≤ 100000) :
    Calls Tryd.prog 29 #[.agg #[.int .i64 f, .slice A n c]] w fun e w' => ∃ v, e = .returned (.agg #[.int .i64 f, v]) ∧ OwnL w' w.heap.size v ls ∧ Below w.heap.size w w' := by
  have hlen := hL.1
  go_enter Tryd.func29, Tryd.ntmps29
  go_wp2_with fail
  obtain ⟨W0, hW0⟩ : ∃ W0, W0 = (w.alloc (.cells #[.int .i64 f, .slice A n c] 24)).alloc (.cells #[.int .i64 0, .slice none 0 0] 24) := ⟨_, rfl⟩
  have HF0 := Lib.hid (two_mem w _ _ W0 hW0)
  rw [← hW0]
  clear hW0
  have a0 := Lib.cell_of_heap HF0.out.1 0
  have a1 := Lib.cell_of_heap HF0.out.1 1
  have HLW := Lib.hid (hL.below HF0.out.2.2.2)
  cases A with
  | none =>
    obtain rfl : c = 0 := hz rfl
    have hn0 : n = 0 := by
      rcases Nat.eq_zero_or_pos n with q | q
      · exact q
      · obtain ⟨b, off, hA, _⟩ := hL.2 q; cases hA
    subst hn0
    obtain rfl : ls = [] := List.eq_nil_of_length_eq_zero hlen
    have r0 := Lib.cell_of_heap HF0.out.2.1 0
    have r1 := Lib.cell_of_heap HF0.out.2.1 1
    have rf : ∀ x, W0.frozen? ⟨w.heap.size + 1, x, none⟩ = false := by intro x; have h1 := HF0.out.2.1; simp [World.frozen?, h1]
    clear hL hz hsp HLW
    go_region_law (first
      | (refine step_append_ltsN rfl (.const (.slice none 0 0)) (.tmp 6) rfl W0.heap.size (.slice none 0 0) [] (by kernel_rfl) (OwnL.nil _ _) (by kernel_rfl) ?_))
    all_goals
      go_wp2_with fail
      obtain ⟨X, hX⟩ : ∃ X, X = (W0.setCell ⟨w.heap.size + 1, 0, none⟩ (.int .i64 f)).setCell ⟨w.heap.size + 1, 1, none⟩ (.slice none 0 0) := ⟨_, rfl⟩
      obtain ⟨k0, k1, hXB, _, hXK⟩ := res_end HF0.out.2.1 (by omega) HF0.out.2.2.2 _ _ hX
      rw [← hX]
      exact bodyPost_ret (v := .agg #[.int .i64 f, .slice none 0 0]) (by simp [results, Tryd.results29, go_sem, k0, k1]) rfl ⟨_, rfl, OwnL.nil _ _, hXB.drew⟩
  | some a =>
    obtain ⟨b, off, sp⟩ := a
    obtain rfl : sp = none := hsp _ rfl
    have HBF := Lib.hid (fun W (hW : Below W0.heap.size W0 W) => two_next HF0.out hW)
    have hbn : ([] : List Lt).length + n ≤ 1000000 := by simp; omega
    clear hz hsp hL
    go_region_law (first
      | (refine step_append_lts rfl (.const (.slice none 0 0)) (.tmp 6) rfl W0.heap.size (.slice none 0 0) [] (by kernel_rfl) (OwnL.nil _ _) b off n c ls (by kernel_rfl) HLW.out hbn (Nat.le_refl _) ?_; intro v1 w1 hown1 hg1; have hb1 : Below W0.heap.size W0 w1 := ((Below.refl W0.heap.size W0).drew).grown hg1 (Nat.le_refl _) (fun q hq => by cases hq); rw [List.nil_append] at hown1; unfold OwnL at hown1; rw [hlen] at hown1; obtain ⟨Av, cv, rfl⟩ := own_form hown1; have HO := Lib.hid (And.intro hown1 hb1); have HM := Lib.hid (HBF.out _ hb1); have r0 := Lib.cell_of_heap HM.out.2.1 0; have r1 := Lib.cell_of_heap HM.out.2.1 1; have a0' := Lib.cell_of_heap HM.out.1 0; have rf : ∀ x, w1.frozen? ⟨w.heap.size + 1, x, none⟩ = false := (by intro x; have h1 := HM.out.2.1; simp [World.frozen?, h1]); clear hown1 hg1 hb1))
    all_goals
      go_wp2_with fail
      obtain ⟨X, hX⟩ : ∃ X, X = (w1.setCell ⟨w.heap.size + 1, 0, none⟩ (.int .i64 f)).setCell ⟨w.heap.size + 1, 1, none⟩ (.slice Av n cv) := ⟨_, rfl⟩
      obtain ⟨k0, k1, hXB, _, hXK⟩ := res_end HM.out.2.1 (by omega) HM.out.2.2.2 _ _ hX
      rw [← hX]
      have hw0 := HF0.out.2.2.1
      refine bodyPost_ret (v := .agg #[.int .i64 f, .slice Av n cv]) (by simp [results, Tryd.results29, go_sem, k0, k1]) rfl ⟨_, rfl, ?_, by first | exact hXB | exact hXB.drew⟩
      unfold OwnL
      rw [hlen]
      exact own_base' (own_kept2' HO.out.1 (fun g e => hXK g (by have := (World.ownsRow.lt HO.out.1 g e).1; omega))) (by omega)

theorem refCopy2 (f : Int) (A : Option Addr) (n c : Nat) (ls : List Lt) (w : World) (hL : LS w A n ls) (hz : A = none → c = 0) (hsp : ∀ a, A = some a → a.spot = none) (hn : n ≤ 100000) :
    Calls Tryd.prog 29 #[.agg #[.int .i64 f, .slice A n c]] w fun e w' => ∃ Av cv, e = .returned (.agg #[.int .i64 f, .slice Av n cv]) ∧ w'.ownsRow w.heap.size 48 6 (.slice Av n cv) n (ls.flatMap ltCells) ∧ Below w.heap.size w w' := by
  refine (refCopy_calls f A n c ls w hL hz hsp hn).mono ?_
  rintro e w' ⟨v, rfl, ho, hb⟩
  unfold OwnL at ho
  rw [hL.1] at ho
  obtain ⟨Av, cv, rfl⟩ := own_form ho
  exact ⟨Av, cv, rfl, ho, hb⟩

/-- The first letters changed, the others as they were. -/
def MapL (h : Lt → Lt) (ls : List Lt) (j : Nat) : List Lt := (ls.take j).map h ++ ls.drop j
theorem MapL_len (h : Lt → Lt) (ls : List Lt) (j : Nat) : (MapL h ls j).length = ls.length := by simp [MapL]; omega
theorem MapL_zero (h : Lt → Lt) (ls : List Lt) : MapL h ls 0 = ls := by simp [MapL]
theorem MapL_all (h : Lt → Lt) (ls : List Lt) : MapL h ls ls.length = ls.map h := by simp [MapL]
theorem MapL_at {h : Lt → Lt} {ls : List Lt} {j : Nat} {l : Lt} (hl : ls[j]? = some l) : (MapL h ls j)[j]? = some l := by
  have hj := lt_len hl
  unfold MapL
  rw [List.getElem?_append_right (by simp; omega), List.length_map, List.length_take, List.getElem?_drop, Nat.min_eq_left (by omega), Nat.sub_self, Nat.add_zero]
  exact hl
theorem MapL_set {h : Lt → Lt} {ls : List Lt} {j : Nat} {l : Lt} (hl : ls[j]? = some l) : (MapL h ls j).set j (h l) = MapL h ls (j + 1) := by
  have hj := lt_len hl
  unfold MapL
  have h1 : ((ls.take j).map h).length = j := by rw [List.length_map, List.length_take]; omega
  have h2 : ls.drop j = l :: ls.drop (j + 1) := by
    rw [List.drop_eq_getElem_cons hj]
    rw [List.getElem?_eq_getElem hj] at hl
    injection hl with hl
    rw [hl]
  rw [List.set_append_right _ _ (by omega), h1, Nat.sub_self, h2, List.set_cons_zero, List.take_add_one, hl]
  simp
theorem MapL_same {h : Lt → Lt} {ls : List Lt} {j : Nat} {l : Lt} (hl : ls[j]? = some l) (he : h l = l) : MapL h ls (j + 1) = MapL h ls j := by
  rw [← MapL_set hl, he]
  have := MapL_at (h := h) hl
  exact List.ext_getElem? (fun i => by
    by_cases e : i = j
    · subst e; rw [List.getElem?_set_self (lt_len this), this]
    · rw [List.getElem?_set_ne (fun q => e q.symm)])

theorem letters_set54 {ls : List Lt} : ∀ {k : Nat} {l : Lt} {x : Bool} {y : Int}, ls[k]? = some l → ((ls.flatMap ltCells).set (k * 6 + 5) (.bool x)).set (k * 6 + 4) (.int .i64 y) = (ls.set k ⟨l.kind, l.gate, l.rank, l.id, y, x⟩).flatMap ltCells := by
  induction ls with
  | nil => intro k l x y h; cases h
  | cons p ps ih =>
    intro k l x y h
    cases k with
    | zero =>
      injection h with h
      subst h
      rfl
    | succ k =>
      have := ih (k := k) (l := l) (x := x) (y := y) (by simpa using h)
      rw [show (k + 1) * 6 + 5 = k * 6 + 5 + 6 by omega, show (k + 1) * 6 + 4 = k * 6 + 4 + 6 by omega, List.set_cons_succ, List.flatMap_cons, List.flatMap_cons, ← this]
      rfl

/-- What holds at the heads of the reference's loops over a copy. -/
def RsRel (P r1 R : Nat) (f f2 : Int) (vc v : Value) (B n : Nat) (h : Lt → Lt) (ls : List Lt) (w : World) (iv : Value) (wr : World) : Prop :=
  ∃ j : Nat, j ≤ n ∧ iv = .int .i64 (j : Int) ∧ wr.heap[P]? = some (.cells #[.int .i64 f, vc] 24 (0, 0)) ∧ wr.heap[r1]? = some (.cells #[.int .i64 0, .slice none 0 0] 24 (0, 0)) ∧
    wr.heap[R]? = some (.cells #[.int .i64 f2, v] 24 (0, 0)) ∧ wr.ownsRow B 48 6 v n ((MapL h ls j).flatMap ltCells) ∧ Below w.heap.size w wr
theorem row_code_ne {w : World} {B sz n gL c R : Nat} {xs : List Value} {cs : Array Value} (h : w.ownsRow B 48 sz (.slice (some ⟨gL, 0, none⟩) n c) n xs) (hR : w.heap[R]? = some (.cells cs 24 (0, 0))) : gL ≠ R := by
  intro e
  rcases h.2 with ⟨hv, _⟩ | ⟨g, _, _, hv, _, hh, _⟩
  · cases hv
  · injection hv with hv
    injection hv with hv
    injection hv with hv
    rw [← hv, e, hR] at hh
    injection hh with hh
    injection hh with _ hh
    exact absurd hh (by decide)
theorem heap_lt {w : World} {q : Nat} {o : Obj} (h : w.heap[q]? = some o) : q < w.heap.size := by
  rcases Nat.lt_or_ge q w.heap.size with c | c
  · exact c
  · rw [Array.getElem?_eq_none c] at h; cases h

theorem RsRel.step {P r1 R : Nat} {f f2 : Int} {vc : Value} {gL cv B n : Nat} {h : Lt → Lt} {ls : List Lt} {w wr X : World} {j : Nat} (hj : j + 1 ≤ n)
    (q1 : wr.heap[P]? = some (.cells #[.int .i64 f, vc] 24 (0, 0))) (q2 : wr.heap[r1]? = some (.cells #[.int .i64 0, .slice none 0 0] 24 (0, 0))) (q3 : wr.heap[R]? = some (.cells #[.int .i64 f2, .slice (some ⟨gL, 0, none⟩) n cv] 24 (0, 0)))
    (hP : P ≠ gL) (hr : r1 ≠ gL) (hR : R ≠ gL) (hk : ∀ q, q ≠ gL → X.heap[q]? = wr.heap[q]?)
    (hrow : X.ownsRow B 48 6 (.slice (some ⟨gL, 0, none⟩) n cv) n ((MapL h ls (j + 1)).flatMap ltCells)) (hB : Below w.heap.size w X) :
    RsRel P r1 R f f2 vc (.slice (some ⟨gL, 0, none⟩) n cv) B n h ls w (.int .i64 ((j : Int) + 1)) X :=
  ⟨j + 1, hj, by rw [Int.natCast_add]; rfl, (hk _ hP).trans q1, (hk _ hr).trans q2, (hk _ hR).trans q3, hrow, hB⟩
theorem RsRel.drew {P r1 R : Nat} {f f2 : Int} {vc v : Value} {B n : Nat} {h : Lt → Lt} {ls : List Lt} {w X : World} {iv : Value} (k : RsRel P r1 R f f2 vc v B n h ls w iv X) : RsRel P r1 R f f2 vc v B n h ls w iv X.drew := by
  obtain ⟨j, h1, h2, h3, h4, h5, h6, h7⟩ := k
  exact ⟨j, h1, h2, h3, h4, h5, h6, h7.drew⟩

/-- What the reference makes of a letter. -/
def rswapL (l : Lt) : Lt := if l.kind = 2 then ⟨l.kind, l.gate, l.rank, l.id, -l.sign, !l.over⟩ else l
/-- A code with these letters. -/
def OkC (f : Int) (n : Nat) (L : List Lt) (w : World) (e : Ending) (w' : World) : Prop :=
  ∃ Av cv, e = .returned (.agg #[.int .i64 f, .slice Av n cv]) ∧ w'.ownsRow w.heap.size 48 6 (.slice Av n cv) n (L.flatMap ltCells) ∧ Below w.heap.size w w'
theorem row_ls {w : World} {B n c : Nat} {A : Option Addr} {L : List Lt} (h : w.ownsRow B 48 6 (.slice A n c) n (L.flatMap ltCells)) (hn : L.length = n) : LS w A n L := by
  rcases h.2 with ⟨hv, h0⟩ | ⟨g, cap, cur, hv, _⟩
  · exact ⟨hn, fun hp => by omega⟩
  · injection hv with e1 _ e3
    subst e1
    subst e3
    exact OwnL.lsR (B := B) (by unfold OwnL; rw [hn]; exact h) hn
theorem letters_set12 {ls : List Lt} : ∀ {k : Nat} {l : Lt} {x y : Int}, ls[k]? = some l → ((ls.flatMap ltCells).set (k * 6 + 1) (.int .i64 x)).set (k * 6 + 2) (.int .i64 y) = (ls.set k ⟨l.kind, x, y, l.id, l.sign, l.over⟩).flatMap ltCells := by
  induction ls with
  | nil => intro k l x y h; cases h
  | cons p ps ih =>
    intro k l x y h
    cases k with
    | zero =>
      injection h with h
      subst h
      rfl
    | succ k =>
      have := ih (k := k) (l := l) (x := x) (y := y) (by simpa using h)
      rw [show (k + 1) * 6 + 1 = k * 6 + 1 + 6 by omega, show (k + 1) * 6 + 2 = k * 6 + 2 + 6 by omega, List.set_cons_succ, List.flatMap_cons, List.flatMap_cons, ← this]
      rfl
theorem letters_set4 {ls : List Lt} : ∀ {k : Nat} {l : Lt} {y : Int}, ls[k]? = some l → (ls.flatMap ltCells).set (k * 6 + 4) (.int .i64 y) = (ls.set k ⟨l.kind, l.gate, l.rank, l.id, y, l.over⟩).flatMap ltCells := by
  induction ls with
  | nil => intro k l y h; cases h
  | cons p ps ih =>
    intro k l y h
    cases k with
    | zero =>
      injection h with h
      subst h
      rfl
    | succ k =>
      have := ih (k := k) (l := l) (y := y) (by simpa using h)
      rw [show (k + 1) * 6 + 4 = k * 6 + 4 + 6 by omega, List.set_cons_succ, List.flatMap_cons, List.flatMap_cons, ← this]
      rfl
theorem letters_set5 {ls : List Lt} : ∀ {k : Nat} {l : Lt} {y : Bool}, ls[k]? = some l → (ls.flatMap ltCells).set (k * 6 + 5) (.bool y) = (ls.set k ⟨l.kind, l.gate, l.rank, l.id, l.sign, y⟩).flatMap ltCells := by
  induction ls with
  | nil => intro k l y h; cases h
  | cons p ps ih =>
    intro k l y h
    cases k with
    | zero =>
      injection h with h
      subst h
      rfl
    | succ k =>
      have := ih (k := k) (l := l) (y := y) (by simpa using h)
      rw [show (k + 1) * 6 + 5 = k * 6 + 5 + 6 by omega, List.set_cons_succ, List.flatMap_cons, List.flatMap_cons, ← this]
      rfl
theorem RsRel.below {P r1 R : Nat} {f f2 : Int} {vc v : Value} {B n : Nat} {h : Lt → Lt} {ls : List Lt} {w X Y : World} {iv : Value} (k : RsRel P r1 R f f2 vc v B n h ls w iv X) (hb : Below X.heap.size X Y) : RsRel P r1 R f f2 vc v B n h ls w iv Y := by
  obtain ⟨j, h1, h2, h3, h4, h5, h6, h7⟩ := k
  exact ⟨j, h1, h2, (hb.block _ (heap_lt h3)).trans h3, (hb.block _ (heap_lt h4)).trans h4, (hb.block _ (heap_lt h5)).trans h5, ownsRow_below h6 hb, h7.trans (hb.mono h7.size)⟩

end Go.Proofs.YtjdabkniojmacaaDoor
