/-
  Faces and Forget at the law's circle.
-/
import Derived.Test.YtnommkbcffikaaaDoorKn
import Derived.Test.YtnommkbcffikaaaDoorKn1
import Derived.Test.YtnommkbcffikaaaDoorForget2
namespace Go.Proofs.YtnommkbcffikaaaDoor
open Go.RowKit

theorem ownsRow_form {w : World} {B : Nat} {T : TypeId} {sz n : Nat} {v : Value} {xs : List Value} (h : w.ownsRow B T sz v n xs) (hn : 0 < n) : ∃ g c, v = .slice (some ⟨g, 0, none⟩) n c := by
  rcases h.2 with ⟨_, h0⟩ | ⟨g, cap, _, hv, _⟩
  · omega
  · exact ⟨g, cap, hv⟩
theorem ownZ_sl {w : World} {B g n c : Nat} {xs : List Int} (h : OwnZ w B (.slice (some ⟨g, 0, none⟩) n c) xs) (hn : xs.length = n) : SL w (some ⟨g, 0, none⟩) n xs := by
  subst hn
  have h' : w.ownsRow B 3 1 (.slice (some ⟨g, 0, none⟩) xs.length c) xs.length (xs.map (Value.int .i64)) := h
  refine ⟨rfl, fun hn => ⟨g, 0, rfl, (World.ownsRow.lt h' g rfl).2, fun k hk => ?_⟩⟩
  have hx : xs[k]? = some xs[k] := List.getElem?_eq_getElem hk
  have := (ownsRow_cell h' (o := k) (x := .int .i64 xs[k]) (by rw [List.getElem?_map, hx]; rfl)).1
  rw [Nat.zero_add, this, List.getElem?_eq_getElem hk]
  rfl

theorem circ_ids : ∀ l, l ∈ circL 0 1 → I64 l.id := by
  intro l hl
  have : l = passLt 0 1 ∨ l = passLt 1 1 := by simpa [circL] using hl
  rcases this with rfl | rfl <;> exact ⟨by decide, by decide⟩
theorem circ_ranks : ∀ l, l ∈ circL 0 1 → l.kind = 1 → 0 ≤ l.rank ∧ l.rank ≤ 1000000 := by
  intro l hl _
  have : l = passLt 0 1 ∨ l = passLt 1 1 := by simpa [circL] using hl
  rcases this with rfl | rfl <;> exact ⟨by decide, by decide⟩

/-- What Faces of the circle leaves. -/
def CircFacesPost (w : World) (e : Ending) (w' : World) : Prop :=
  ∃ g cap gd cd gp cp gf cf, e = .returned (.tuple #[.slice (some ⟨g, 0, none⟩) 4 cap, .int .i64 0]) ∧ w'.cell? ⟨g, 5, none⟩ = some (.bool false) ∧ w'.cell? ⟨g, 6, none⟩ = some (.slice (some ⟨gd, 0, none⟩) 1 cd) ∧
    w'.cell? ⟨g, 7, none⟩ = some (.slice (some ⟨gp, 0, none⟩) 3 cp) ∧ w'.cell? ⟨g, 8, none⟩ = some (.slice (some ⟨gf, 0, none⟩) 1 cf) ∧ w'.cell? ⟨g, 9, none⟩ = some (.bool true) ∧ w'.cell? ⟨g, 15, none⟩ = some (.bool true) ∧
    SL w' (some ⟨gd, 0, none⟩) 1 [1] ∧ SL w' (some ⟨gf, 0, none⟩) 1 [2] ∧ w'.cell? ⟨gp, 2, none⟩ = some (.int .i64 2) ∧ w'.cell? ⟨gp, 3, none⟩ = some (.int .i64 0) ∧ g < w'.heap.size ∧ gp < w'.heap.size ∧ Below w.heap.size w w'

theorem circFaces_calls (A : Option Addr) (c : Nat) (w : World) (hL : LS w A 2 (circL 0 1)) (hA : ∀ b off, A = some ⟨b, off, none⟩ → b < w.heap.size) :
    Calls Tryd.prog 22 #[.agg #[.int .i64 2, .slice A 2 c]] w (CircFacesPost w) := by
  refine (faces_calls 2 A 2 c (circL 0 1) w hL hA circ_ids circle_ok (by decide)).mono ?_
  rintro e w' ⟨st, pt, h1, h2, v, ts, rfl, h3, h4, h5⟩
  have hf : (dmOf 2 (circL 0 1) st pt).faces 2 = [⟨false, [0], [(1, 0), (0, 1)], [1], false⟩, ⟨false, [1], [(0, 0), (2, 0), (1, 1)], [2], true⟩, ⟨true, [2], [(0, 1), (1, 0)], [1], false⟩, ⟨true, [3], [(1, 1), (2, 0), (0, 0)], [2], true⟩] := by
    have h := circ_faces
    unfold circFaces at h
    rw [h1] at h
    dsimp only at h
    rw [h2] at h
    dsimp only at h
    injection h
  rw [hf] at h3 h4
  have hl := h4.1
  match ts, hl with
  | [t0, t1, t2, t3], _ =>
    obtain ⟨q1, q2, q3⟩ := h4.2 1 _ t1 rfl rfl
    unfold OwnF at h3
    obtain ⟨g, cap, rfl⟩ := ownsRow_form h3 (by decide)
    obtain ⟨gd, cd, e1⟩ := ownsRow_form (show w'.ownsRow _ _ 1 t1.1 1 _ from q1) (by decide)
    obtain ⟨gp, cp, e2⟩ := ownsRow_form (show w'.ownsRow _ _ 2 t1.2.1 3 _ from q2) (by decide)
    obtain ⟨gf, cf, e3⟩ := ownsRow_form (show w'.ownsRow _ _ 1 t1.2.2 1 _ from q3) (by decide)
    have k5 := ownsRow_cell h3 (o := 5) (x := .bool false) rfl
    have k6 := ownsRow_cell h3 (o := 6) (x := t1.1) rfl
    have k7 := ownsRow_cell h3 (o := 7) (x := t1.2.1) rfl
    have k8 := ownsRow_cell h3 (o := 8) (x := t1.2.2) rfl
    have k9 := ownsRow_cell h3 (o := 9) (x := .bool true) rfl
    have k15 := ownsRow_cell h3 (o := 15) (x := .bool true) rfl
    rw [e1] at k6 q1
    rw [e2] at k7 q2
    rw [e3] at k8 q3
    have p2 := ownsRow_cell (show w'.ownsRow _ 31 2 (.slice (some ⟨gp, 0, none⟩) 3 cp) 3 _ from q2) (o := 2) (x := .int .i64 2) rfl
    have p3 := ownsRow_cell (show w'.ownsRow _ 31 2 (.slice (some ⟨gp, 0, none⟩) 3 cp) 3 _ from q2) (o := 3) (x := .int .i64 0) rfl
    exact ⟨g, cap, gd, cd, gp, cp, gf, cf, rfl, k5.1, k6.1, k7.1, k8.1, k9.1, k15.1, ownZ_sl q1 rfl, ownZ_sl q3 rfl, p2.1, p3.1, k5.2.2.2, p2.2.2.2, h5⟩

theorem OwnL.ls {w : World} {B g n c : Nat} {ls : List Lt} (h : OwnL w B (.slice (some ⟨g, 0, none⟩) n c) ls) (hn : ls.length = n) : LS w (some ⟨g, 0, none⟩) n ls := by
  subst hn
  have h' : w.ownsRow B 63 6 (.slice (some ⟨g, 0, none⟩) ls.length c) ls.length (ls.flatMap ltCells) := h
  refine ⟨rfl, fun hp => ⟨g, 0, rfl, (World.ownsRow.lt h' g rfl).2, fun k l hk => ?_⟩⟩
  rw [Nat.zero_add]
  exact ⟨(ownsRow_cell h' (o := k * 6) (letters_at hk 0 _ rfl)).1, (ownsRow_cell h' (o := k * 6 + 1) (letters_at hk 1 _ rfl)).1, (ownsRow_cell h' (o := k * 6 + 2) (letters_at hk 2 _ rfl)).1,
    (ownsRow_cell h' (o := k * 6 + 3) (letters_at hk 3 _ rfl)).1, (ownsRow_cell h' (o := k * 6 + 4) (letters_at hk 4 _ rfl)).1, (ownsRow_cell h' (o := k * 6 + 5) (letters_at hk 5 _ rfl)).1⟩
theorem circ_forgot : (circL 0 1).map (forgL 1 (cntB (inGate (1 - 1)) (circL 0 1))) = [passLt 0 1, passLt 0 2] := by decide +kernel
/-- What Forget of the circle leaves. -/
theorem circForget_calls (A : Option Addr) (c : Nat) (w : World) (hL : LS w A 2 (circL 0 1)) (hA : ∀ b off, A = some ⟨b, off, none⟩ → b < w.heap.size) :
    Calls Tryd.prog 30 #[.agg #[.int .i64 2, .slice A 2 c], .int .i64 1] w fun e w' => ∃ g, e = .returned (.tuple #[.agg #[.int .i64 1, .slice (some ⟨g, 0, none⟩) 2 2], .int .i64 0]) ∧
      LS w' (some ⟨g, 0, none⟩) 2 [passLt 0 1, passLt 0 2] ∧ g < w'.heap.size ∧ Below w.heap.size w w' := by
  refine (forget_calls 2 1 A 2 c (circL 0 1) w hL hA circ_ids circ_ranks).mono ?_
  rintro e w' (⟨h, _⟩ | ⟨_, h, _⟩ | ⟨_, _, g, rfl, h, hb⟩)
  · exact absurd circle_ok h
  · exact absurd ⟨by decide, by decide⟩ h
  · rw [circ_forgot] at h
    exact ⟨g, rfl, h.ls rfl, (World.ownsRow.lt (show w'.ownsRow _ _ 6 (.slice (some ⟨g, 0, none⟩) 2 2) 2 _ from h) g rfl).2, hb⟩

end Go.Proofs.YtnommkbcffikaaaDoor
