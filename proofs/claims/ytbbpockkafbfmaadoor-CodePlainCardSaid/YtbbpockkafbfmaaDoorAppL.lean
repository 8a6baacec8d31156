/-
  Appends of letters (out of RefS).
-/
import Derived.Test.YtbbpockkafbfmaaDoorEach
import Derived.Test.YtbbpockkafbfmaaDoorVal
import Derived.Deep.RegionLaw
import Derived.Laws.AppendOwnNone
namespace Go.Proofs.YtbbpockkafbfmaaDoor
open Go.RowKit

theorem LS.flatR {w : World} {b off n : Nat} {ls : List Lt} (h : LS w (some ⟨b, off, none⟩) n ls) {j : Nat} {u : Value} (hu : (ls.flatMap ltCells)[j]? = some u) : w.cell? ⟨b, off + j, none⟩ = some u := by
  have hjl : j < ls.length * 6 := by
    rcases Nat.lt_or_ge j (ls.flatMap ltCells).length with q | q
    · rw [letters_len] at q; exact q
    · rw [List.getElem?_eq_none q] at hu; cases hu
  have hn := h.1
  obtain ⟨b', off', l, hA, _, hl, c0, c1, c2, c3, c4, c5⟩ := h.at_ (k := j / 6) (by omega)
  injection hA with hA
  injection hA with e1 e2
  subst e1; subst e2
  have hi : j = j / 6 * 6 + j % 6 := by omega
  have hx : ∀ i x, i = j % 6 → (ltCells l)[i]? = some x → u = x := by
    intro i x hi' hx
    have := letters_at hl i x hx
    rw [hi', ← hi, hu] at this
    injection this
  have h6 : j % 6 = 0 ∨ j % 6 = 1 ∨ j % 6 = 2 ∨ j % 6 = 3 ∨ j % 6 = 4 ∨ j % 6 = 5 := by omega
  rcases h6 with q | q | q | q | q | q
  · rw [hx 0 _ q.symm rfl, show off + j = off + j / 6 * 6 by omega]; exact c0
  · rw [hx 1 _ q.symm rfl, show off + j = off + j / 6 * 6 + 1 by omega]; exact c1
  · rw [hx 2 _ q.symm rfl, show off + j = off + j / 6 * 6 + 2 by omega]; exact c2
  · rw [hx 3 _ q.symm rfl, show off + j = off + j / 6 * 6 + 3 by omega]; exact c3
  · rw [hx 4 _ q.symm rfl, show off + j = off + j / 6 * 6 + 4 by omega]; exact c4
  · rw [hx 5 _ q.symm rfl, show off + j = off + j / 6 * 6 + 5 by omega]; exact c5
theorem ltCells_oneR {ls : List Lt} : ∀ u ∈ ls.flatMap ltCells, u.oneCell' = true := by
  intro u hu
  obtain ⟨l, _, hu⟩ := List.mem_flatMap.1 hu
  simp only [ltCells, List.mem_cons, List.not_mem_nil, or_false] at hu
  rcases hu with rfl | rfl | rfl | rfl | rfl | rfl <;> rfl
theorem OwnL.lsR {w : World} {B gL n cp : Nat} {L : List Lt} (h : OwnL w B (.slice (some ⟨gL, 0, none⟩) n cp) L) (hn : L.length = n) : LS w (some ⟨gL, 0, none⟩) n L := by
  subst hn
  refine ⟨rfl, fun _ => ⟨gL, 0, rfl, (World.ownsRow.lt h gL rfl).2, fun k l hk => ?_⟩⟩
  have c : ∀ i x, (ltCells l)[i]? = some x → w.cell? ⟨gL, k * 6 + i, none⟩ = some x := fun i x hx => (ownsRow_cell h (letters_at hk i x hx)).1
  rw [Nat.zero_add]
  exact ⟨c 0 _ rfl, c 1 _ rfl, c 2 _ rfl, c 3 _ rfl, c 4 _ rfl, c 5 _ rfl⟩

set_option maxRecDepth 100000 in
/-- An append of letters inside a region whose order is drawn. -/
theorem step_append_lts {w : World} {ops : Array Oper} {o : Oper} {a : Act} {K : Act → World → Prop} {Q : Exit → Act → World → Prop} {E : Prop} (hgd : o.guard = none) (s x : Operand)
    (ho : o.op = .call { callee := .builtin .append, args := #[s, x], argTypes := #[31, 31] })
    (B : Nat) (v : Value) (xs : List Lt) (hs : a.eval s = v) (hown : OwnL w B v xs)
    (b off m c : Nat) (ys : List Lt) (hx : a.eval x = .slice (some ⟨b, off, none⟩) m c) (hy : LS w (some ⟨b, off, none⟩) m ys)
    (hbig : xs.length + m ≤ 1000000) (hbase : B ≤ w.heap.size)
    (h : ∀ v' w', OwnL w' B v' (xs ++ ys) → w.grownBy w' v.ownBlock → K (a.put o.dst v') w') :
    if Region.wanted o (yielded ops a.tmps) = true then Oper.wp Tryd.prog o a w K Q else E := by
  have hw : Region.wanted o (yielded ops a.tmps) = true := by simp [Region.wanted, hgd]
  rw [if_pos hw]
  obtain ⟨i0, hi, hz0, hz1, hz2⟩ := info_parts infoLetter
  have hm := hy.1
  unfold OwnL at hown
  refine wp_append_own w s x 31 ho B 50 i0 (.agg #[.int .i64 0, .int .i64 0, .int .i64 0, .int .i64 0, .int .i64 0, .bool false]) 6 48 Tryd.underlying31 hi hz0 hz1 hz2 rfl (by decide) v xs.length (xs.flatMap ltCells) hs hown ⟨b, off, none⟩ m c (ys.flatMap ltCells) hx (by rw [letters_len, hm]) (fun j u hu => by rw [Go.WideShapes.add_plain]; exact hy.flatR hu) ltCells_oneR (by unfold maxLen; omega) (by omega) hbase ?_
  intro v' w' h1 h2 _
  refine h v' w' ?_ h2
  unfold OwnL
  rw [List.length_append, List.flatMap_append, hm]
  exact h1
set_option maxRecDepth 100000 in
/-- .. of nothing. -/
theorem step_append_ltsN {w : World} {ops : Array Oper} {o : Oper} {a : Act} {K : Act → World → Prop} {Q : Exit → Act → World → Prop} {E : Prop} (hgd : o.guard = none) (s x : Operand)
    (ho : o.op = .call { callee := .builtin .append, args := #[s, x], argTypes := #[31, 31] })
    (B : Nat) (v : Value) (xs : List Lt) (hs : a.eval s = v) (hown : OwnL w B v xs) (hx : a.eval x = .slice none 0 0)
    (h : K (a.put o.dst v) w) : if Region.wanted o (yielded ops a.tmps) = true then Oper.wp Tryd.prog o a w K Q else E := by
  have hw : Region.wanted o (yielded ops a.tmps) = true := by simp [Region.wanted, hgd]
  rw [if_pos hw]
  obtain ⟨i0, hi, hz0, hz1, hz2⟩ := info_parts infoLetter
  unfold OwnL at hown
  have hrun := run_append_owned_none (P := Tryd.prog) (w := w) B 31 o.type 50 i0 6 Tryd.underlying31 hi v xs.length (xs.flatMap ltCells) hown
  unfold Oper.wp
  simp [execOp, ho, resolve, invoke, builtin, hs, hx, hrun, Result.andThen]
  exact h
theorem OwnL.nil (w : World) (B : Nat) : OwnL w B (.slice none 0 0) [] := World.ownsRow_nil _ _ _ _


end Go.Proofs.YtbbpockkafbfmaaDoor
