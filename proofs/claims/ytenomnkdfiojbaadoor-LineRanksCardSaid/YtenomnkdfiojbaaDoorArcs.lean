/-
  The walk of line.arcs for any positions.
-/
import Derived.Test.YtenomnkdfiojbaaDoorPos
namespace Go.Proofs.YtenomnkdfiojbaaDoor
open Go.RowKit

def arcFlat (l : List (Int × Int)) : List Value := l.flatMap fun p => [.int .i64 p.1, .int .i64 p.2]
def OwnA (w : World) (B : Nat) (v : Value) (l : List (Int × Int)) : Prop := w.ownsRow B 85 2 v l.length (arcFlat l)
theorem OwnA.below {w w' : World} {B : Nat} {v : Value} {l : List (Int × Int)} (h : OwnA w B v l) (hb : Below w.heap.size w w') : OwnA w' B v l := ownsRow_below h hb

theorem arcFlat_at {l : List (Int × Int)} {k : Nat} {p : Int × Int} (h : l[k]? = some p) : (arcFlat l)[2 * k]? = some (.int .i64 p.1) ∧ (arcFlat l)[2 * k + 1]? = some (.int .i64 p.2) := by
  induction l generalizing k with
  | nil => cases h
  | cons a l ih =>
    cases k with
    | zero =>
      injection h with h
      subst h
      exact ⟨rfl, rfl⟩
    | succ k =>
      have := ih (k := k) h
      rw [show 2 * (k + 1) = 2 * k + 2 by omega]
      exact this

theorem wpList_append_arcs {w : World} {ops : Array Oper} {rest : List Oper} {o : Oper} {a : Act} {Q : Exit → Act → World → Prop} (hgd : o.guard = none) (s x : Operand)
    (ho : o.op = .call { callee := .builtin .append, args := #[s, x], argTypes := #[77, 77] })
    (B : Nat) (v : Value) (ls : List (Int × Int)) (hs : a.eval s = v) (hown : OwnA w B v ls)
    (N : Nat) (l r : Int) (fr : Nat × Nat) (t : TypeId) (hx : a.eval x = .slice (some ⟨N, 0, none⟩) 1 1) (hb : w.heap[N]? = some (.cells #[.int .i64 l, .int .i64 r] t fr)) (hbig : ls.length ≤ 1000) (hbase : B ≤ w.heap.size)
    (h : ∀ v' w', OwnA w' B v' (ls ++ [(l, r)]) → w.grownBy w' v.ownBlock → wpList Tryd.prog ops Q rest (a.put o.dst v') w') :
    wpList Tryd.prog ops Q (o :: rest) a w := by
  obtain ⟨i0, hi, hz0, hz1, hz2⟩ := info_parts infoArc
  refine wpList_append_lies w hgd s x 77 ho B 85 i0 (.agg #[.int .i64 0, .int .i64 0]) 2 16 Tryd.underlying77 hi hz0 hz1 hz2 rfl (by decide) v ls.length (arcFlat ls) hs hown
    ⟨N, 0, none⟩ 1 1 [.int .i64 l, .int .i64 r] hx rfl (World.news_of_block hb) ?_ (by decide) (by unfold maxLen; omega) (by omega) hbase w.heap.size rfl ?_
  · intro u hu
    rcases List.mem_cons.1 hu with rfl | hu
    · rfl
    · rw [List.mem_singleton] at hu; subst hu; rfl
  · intro g cap w' hown' hg _ _
    refine h _ w' ?_ hg
    unfold OwnA
    have e : arcFlat (ls ++ [(l, r)]) = arcFlat ls ++ [.int .i64 l, .int .i64 r] := by simp [arcFlat]
    rw [e, List.length_append]
    exact hown'

/-- The arc at a position. -/
def arcAt (L : List Int) (i : Nat) : Int × Int := (min (L.getD i 0) (L.getD ((i + 1) % L.length) 0), max (L.getD i 0) (L.getD ((i + 1) % L.length) 0))
def arcsL (L : List Int) (f k : Nat) : List (Int × Int) := (List.range k).map fun t => arcAt L (f + 2 * t)
theorem arcsL_succ (L : List Int) (f k : Nat) : arcsL L f (k + 1) = arcsL L f k ++ [arcAt L (f + 2 * k)] := by simp [arcsL, List.range_succ]
theorem arcsL_length (L : List Int) (f k : Nat) : (arcsL L f k).length = k := by simp [arcsL]

def ArcsRel (L : List Int) (f n : Nat) (w : World) (v i : Value) (wr : World) : Prop :=
  ∃ k : Nat, k ≤ n / 2 ∧ i = .int .i64 ((f + 2 * k : Nat) : Int) ∧ OwnA wr w.heap.size v (arcsL L f k) ∧ Below w.heap.size w wr

set_option maxHeartbeats 1000000 in
set_option maxRecDepth 100000 in
theorem arcs_calls (f : Nat) (hf : f = 0 ∨ f = 1) (A : Option Addr) (n cap : Nat) (L : List Int) (w : World) (h : SL w A n L) (hn : n ≤ 400) (he : n % 2 = 0) (hr : ∀ x, x ∈ L → 0 ≤ x ∧ x ≤ 10000000) :
    Calls Tryd.prog 75 #[.slice A n cap, .int .i64 (f : Int)] w fun e w' => ∃ v, e = .returned v ∧ OwnA w' w.heap.size v (arcsL L f (n / 2)) ∧ Below w.heap.size w w' := by
  have HL := Lib.hid h.1
  have HR := Lib.hid hr
  clear hr
  go_enter Tryd.func75, Tryd.ntmps75
  go_wp2_with fail
  go_loopw [5, 6] (fun v i wr => ArcsRel L f n w v i wr) (fun _ i _ => n + 2 - (intOf i).toNat)
  case atStart => exact ⟨0, Nat.zero_le _, rfl, World.ownsRow_nil _ _ _ _, Below.refl _ _⟩
  case round =>
    obtain ⟨k, hk, rfl, hown, hb⟩ := hrel
    have HOWN := Lib.hid hown
    have HB := Lib.hid hb
    obtain ⟨j, hj⟩ : ∃ j, f + 2 * k = j := ⟨_, rfl⟩
    rw [hj]
    by_cases hlt : j < n
    · have hk2 : k + 1 ≤ n / 2 := by omega
      obtain ⟨b, off, x, rfl, hbb, hx, hc⟩ := (h.below hb).at_ hlt
      have hmlt : (j + 1) % n < n := Nat.mod_lt _ (by omega)
      obtain ⟨b', off', y, hA, _, hy, hd⟩ := (h.below hb).at_ hmlt
      obtain ⟨rfl, rfl⟩ : b = b' ∧ off = off' := by injection hA with hA; injection hA with e1 e2; exact ⟨e1, e2⟩
      have hm : ((j : Int) + 1) % (n : Int) = ((j + 1) % n : Nat) := by rw [← Int.natCast_one, ← Int.natCast_add, ← Int.natCast_emod]
      have HA : Hid (arcAt L (f + 2 * k) = (min x y, max x y)) := by
        unfold Hid arcAt
        rw [hj, HL.out, List.getD_eq_getElem?_getD, List.getD_eq_getElem?_getD, hx, hy]
        rfl
      clear hx hy hA hown hb
      generalize (j + 1) % n = m at hm hmlt hd
      go_wp2_with fail
      go_quiet (fail)
      clear hc hd
      go_wp2_with (at_builtin; refine wpList_append_arcs rfl _ _ rfl w.heap.size _ (arcsL L f k) rfl (OwnA.below (OwnA.below HOWN.out (below_drewN (Below.refl _ wr) _)) ((Below.refl _ _).alloc (Nat.le_refl _) _)) wr.heap.size _ _ _ _ rfl (heap_alloc_new _ _) ?c1 ?c2 ?_)
      case c1 => rw [arcsL_length]; omega
      case c2 => have := HB.out.size; simp; omega
      intro v' w' hown' hg
      have HREL : Hid (ArcsRel L f n w v' (.int .i64 ((j : Int) + 2)) w') :=
        ⟨k + 1, hk2, by congr 1; omega, by rw [arcsL_succ, HA.out]; exact hown', Below.grown ((below_drewN HB.out _).alloc HB.out.size _) hg (by have := HB.out.size; simp; omega) (fun k hk => (HOWN.out.lt k hk).1)⟩
      clear hown' hg
      go_wp2_with fail
      go_roundw
      case rel => exact HREL.out
      case measure => simp [intOf]; omega
    · have hk2 : k = n / 2 := by omega
      go_wp2_with fail
      go_ret
      refine ⟨_, rfl, ?_, hb⟩
      rw [← hk2]
      exact hown

end Go.Proofs.YtenomnkdfiojbaaDoor
