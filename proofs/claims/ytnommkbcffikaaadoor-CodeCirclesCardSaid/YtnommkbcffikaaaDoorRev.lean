/-
  The walks of slices.Reverse at []int and []Place, over what the call owns.
-/
import Derived.Test.YtnommkbcffikaaaDoorGap
namespace Go.Proofs.YtnommkbcffikaaaDoor
open Go.RowKit

/-- A list of which the first k elements and the last k have been exchanged. -/
def RevAt {α : Type} (xs ys : List α) (n k : Nat) : Prop := xs.length = n ∧ ys.length = n ∧ ∀ p, p < n → ys[p]? = if p < k ∨ n - 1 - p < k then xs[n - 1 - p]? else xs[p]?
theorem RevAt.start {α : Type} (xs : List α) {n : Nat} (h : xs.length = n) : RevAt xs xs n 0 := ⟨h, h, fun p _ => by rw [if_neg (by omega)]⟩
theorem RevAt.step {α : Type} {xs ys : List α} {n k : Nat} (h : RevAt xs ys n k) {q : Nat} (hq : q + k + 1 = n) (hk : k < q) {a b : α} (ha : ys[k]? = some a) (hb : ys[q]? = some b) : RevAt xs ((ys.set k b).set q a) n (k + 1) := by
  obtain ⟨h1, h2, h3⟩ := h
  refine ⟨h1, by simp [h2], fun p hp => ?_⟩
  have ha' := h3 k (by omega)
  have hb' := h3 q (by omega)
  rw [if_neg (by omega), ha] at ha'
  rw [if_neg (by omega), hb] at hb'
  rw [List.getElem?_set, List.getElem?_set]
  by_cases e1 : q = p
  · subst e1
    rw [if_pos rfl, if_pos (by simp [h2]; omega), if_pos (by omega), show n - 1 - q = k by omega, ← ha']
  · rw [if_neg e1]
    by_cases e2 : k = p
    · subst e2
      rw [if_pos rfl, if_pos (by omega), if_pos (by omega), show n - 1 - k = q by omega, ← hb']
    · rw [if_neg e2, h3 p hp]
      by_cases c : p < k ∨ n - 1 - p < k
      · rw [if_pos c, if_pos (by omega)]
      · rw [if_neg c, if_neg (by omega)]
theorem RevAt.done {α : Type} {xs ys : List α} {n k : Nat} (h : RevAt xs ys n k) (hk : n ≤ 2 * k + 1) : ys = xs.reverse := by
  obtain ⟨h1, h2, h3⟩ := h
  apply List.ext_getElem?
  intro p
  by_cases hp : p < n
  · rw [h3 p hp, List.getElem?_reverse (by omega), h1]
    by_cases c : p < k ∨ n - 1 - p < k
    · rw [if_pos c]
    · rw [if_neg c, show n - 1 - p = p by omega]
  · rw [List.getElem?_eq_none (by omega), List.getElem?_eq_none (by simp; omega)]

section
variable {w : World} {B g n c sz : Nat} {T : TypeId} {xs : List Value}
theorem ownsRow_cell (h : w.ownsRow B T sz (.slice (some ⟨g, 0, none⟩) n c) n xs) {o : Nat} {x : Value} (hx : xs[o]? = some x) : w.cell? ⟨g, o, none⟩ = some x ∧ w.frozen? ⟨g, o, none⟩ = false ∧ B ≤ g ∧ g < w.heap.size := by
  have hc := h.cells (g := g) rfl o x hx
  rw [Go.WideShapes.add_plain, Nat.zero_add] at hc
  refine ⟨hc, ?_, (h.lt g rfl).1, (h.lt g rfl).2⟩
  rcases h.2 with ⟨hv, h0⟩ | ⟨g', cap, cur, hv, hg, hh, _⟩
  · cases hv
  · injection hv with e1
    injection e1 with e1
    injection e1 with e1
    subst e1
    simp [World.frozen?, hh]
theorem ownsRow_set (h : w.ownsRow B T sz (.slice (some ⟨g, 0, none⟩) n c) n xs) (o : Nat) (x : Value) : (w.setCell ⟨g, o, none⟩ x).ownsRow B T sz (.slice (some ⟨g, 0, none⟩) n c) n (xs.set o x) := by
  rcases h.2 with ⟨hv, h0⟩ | ⟨g', cap, cur, hv, hg, hh, hc, hm, hs, ht⟩
  · cases hv
  · injection hv with e1 e2 e3
    injection e1 with e1
    injection e1 with e1
    subst e1; subst e3
    refine ⟨by rw [List.length_set]; exact h.1, .inr ⟨g, c, cur.setIfInBounds o x, rfl, hg, ?_, hc, hm, by simpa using hs, ?_⟩⟩
    · simp [World.setCell, Array.getElem?_modify, hh]
    · rw [Array.toList_setIfInBounds, List.take_set, ht]
end
theorem placeVs_at {ps : List (Int × Int)} : ∀ {k : Nat} {a b : Int}, ps[k]? = some (a, b) → (placeVs ps)[k * 2]? = some (.int .i64 a) ∧ (placeVs ps)[k * 2 + 1]? = some (.int .i64 b) := by
  induction ps with
  | nil => intro k a b h; cases h
  | cons p ps ih =>
    intro k a b h
    cases k with
    | zero =>
      simp only [List.getElem?_cons_zero, Option.some.injEq] at h
      subst h
      exact ⟨rfl, rfl⟩
    | succ k =>
      have := ih (k := k) (a := a) (b := b) (by simpa using h)
      rw [show (k + 1) * 2 = k * 2 + 2 by omega]
      exact this
theorem placeVs_set {ps : List (Int × Int)} : ∀ {k : Nat} {a b : Int}, k < ps.length → ((placeVs ps).set (k * 2) (.int .i64 a)).set (k * 2 + 1) (.int .i64 b) = placeVs (ps.set k (a, b)) := by
  induction ps with
  | nil => intro k a b h; cases h
  | cons p ps ih =>
    intro k a b h
    cases k with
    | zero => rfl
    | succ k =>
      have := ih (k := k) (a := a) (b := b) (by simpa using h)
      rw [show (k + 1) * 2 = k * 2 + 2 by omega, List.set_cons_succ]
      show Value.int .i64 p.1 :: Value.int .i64 p.2 :: _ = _
      unfold placeVs at this ⊢
      rw [List.flatMap_cons, ← this]
      rfl
theorem placeVs_len (ps : List (Int × Int)) : (placeVs ps).length = ps.length * 2 := by
  unfold placeVs
  induction ps with
  | nil => rfl
  | cons p ps ih => rw [List.flatMap_cons, List.length_append, ih, List.length_cons]; simp; omega

def RvRel (w : World) (B g c : Nat) (xs : List Int) (n : Nat) (iv jv : Value) (wr : World) : Prop :=
  ∃ (k : Nat) (ys : List Int), 2 * k ≤ n + 1 ∧ iv = .int .i64 (k : Int) ∧ jv = .int .i64 ((n : Int) - 1 - k) ∧ RevAt xs ys n k ∧ OwnZ wr B (.slice (some ⟨g, 0, none⟩) n c) ys ∧ Keep g w wr

set_option maxHeartbeats 2000000 in
theorem reverseZ_calls (w : World) (B g n c : Nat) (xs : List Int) (hl : xs.length = n) (h : OwnZ w B (.slice (some ⟨g, 0, none⟩) n c) xs) (hn : n ≤ 100000) :
    Calls Tryd.prog 128 #[.slice (some ⟨g, 0, none⟩) n c] w fun e w' => e = .returned (.tuple #[]) ∧ OwnZ w' B (.slice (some ⟨g, 0, none⟩) n c) xs.reverse ∧ Keep g w w' := by
  have H := Lib.hid h
  have HLL := Lib.hid hl
  clear h hl
  go_enter Tryd.func128, Tryd.ntmps128
  go_wp2_with fail
  go_loopw [2, 3] (fun iv jv wr => RvRel w B g c xs n iv jv wr) (fun iv _ _ => n - (intOf iv).toNat)
  case atStart => exact ⟨0, xs, by omega, rfl, by congr 1; omega, RevAt.start xs HLL.out, H.out, Below.refl _ _, fun _ _ _ => rfl⟩
  case round =>
    obtain ⟨k, ys, hk, rfl, rfl, hrev, hown, hkeep⟩ := hrel
    have HREV := Lib.hid hrev
    have HOWN := Lib.hid hown
    have HKE := Lib.hid hkeep
    have hsz := hkeep.1.size
    clear hrev hown hkeep
    by_cases hlt : 2 * k + 1 < n
    · obtain ⟨q, hq⟩ := Int.eq_ofNat_of_zero_le (show 0 ≤ (n : Int) - 1 - k by omega)
      have hqn : q + k + 1 = n := by omega
      have hyl : ys.length = n := HREV.out.2.1
      have hkl : k < ys.length := by omega
      have hql : q < ys.length := by omega
      have ha : ys[k]? = some ys[k] := List.getElem?_eq_getElem hkl
      have hb : ys[q]? = some ys[q] := List.getElem?_eq_getElem hql
      have HO : Hid (wr.ownsRow B 3 1 (.slice (some ⟨g, 0, none⟩) n c) n (ys.map (Value.int .i64))) := by
        have h1 := HOWN.out
        unfold OwnZ at h1
        rw [hyl] at h1
        exact h1
      obtain ⟨a, haa⟩ : ∃ a, ys[k] = a := ⟨_, rfl⟩
      obtain ⟨b, hbb⟩ : ∃ b, ys[q] = b := ⟨_, rfl⟩
      rw [haa] at ha
      rw [hbb] at hb
      have HST := Lib.hid (HREV.out.step hqn (by omega) ha hb)
      obtain ⟨m1, m2, _, m3⟩ := ownsRow_cell HO.out (o := k) (x := .int .i64 a) (by rw [List.getElem?_map, ha]; rfl)
      obtain ⟨m4, m5, _, _⟩ := ownsRow_cell HO.out (o := q) (x := .int .i64 b) (by rw [List.getElem?_map, hb]; rfl)
      have hi1 : (k : Int) < n := by omega
      have hi2 : (q : Int) < n := by omega
      have hi3 : (k : Int) < (q : Int) := by omega
      have hne : ¬ k = q := by omega
      have HREL : Hid (RvRel w B g c xs n (.int .i64 ((k : Int) + 1)) (.int .i64 ((q : Int) - 1)) ((wr.setCell ⟨g, k, none⟩ (.int .i64 b)).setCell ⟨g, q, none⟩ (.int .i64 a)).drew) := by
        refine ⟨k + 1, _, by omega, by rw [Int.natCast_add]; rfl, by congr 1; omega, HST.out, ?_, (((HKE.out.1).setCell (p := ⟨g, k, none⟩) (Nat.le_refl _) _).setCell (p := ⟨g, q, none⟩) (Nat.le_refl _) _).drew, fun x h1 h2 => ?_⟩
        · have h1 := ownsRow_set (ownsRow_set (w := wr) HO.out k (.int .i64 b)) q (.int .i64 a)
          rw [← List.map_set, ← List.map_set] at h1
          unfold OwnZ
          rw [List.length_set, List.length_set, hyl]
          exact h1
        · exact (Below.heap_setCell _ _ _ x h2).trans ((Below.heap_setCell _ _ _ x h2).trans (HKE.out.2 x h1 h2))
      clear ha hb haa hbb hkl hql hyl
      go_wp2_with fail
      go_region
      go_wp2_with fail
      go_roundw
      case rel => exact HREL.out
      case measure => simp [intOf]; omega
    · have hge : ¬ (k : Int) < (n : Int) - 1 - k := by omega
      go_wp2_with fail
      go_end0
      have he := HREV.out.done (by omega)
      rw [← he]
      exact ⟨rfl, HOWN.out, HKE.out⟩

def RvRelP (w : World) (B g c : Nat) (xs : List (Int × Int)) (n : Nat) (iv jv : Value) (wr : World) : Prop :=
  ∃ (k : Nat) (ys : List (Int × Int)), 2 * k ≤ n + 1 ∧ iv = .int .i64 (k : Int) ∧ jv = .int .i64 ((n : Int) - 1 - k) ∧ RevAt xs ys n k ∧ OwnP wr B (.slice (some ⟨g, 0, none⟩) n c) ys ∧ Keep g w wr

set_option maxHeartbeats 2000000 in
theorem reverseP_calls (w : World) (B g n c : Nat) (xs : List (Int × Int)) (hl : xs.length = n) (h : OwnP w B (.slice (some ⟨g, 0, none⟩) n c) xs) (hn : n ≤ 100000) :
    Calls Tryd.prog 127 #[.slice (some ⟨g, 0, none⟩) n c] w fun e w' => e = .returned (.tuple #[]) ∧ OwnP w' B (.slice (some ⟨g, 0, none⟩) n c) xs.reverse ∧ Keep g w w' := by
  have H := Lib.hid h
  have HLL := Lib.hid hl
  clear h hl
  go_enter Tryd.func127, Tryd.ntmps127
  go_wp2_with fail
  go_loopw [2, 3] (fun iv jv wr => RvRelP w B g c xs n iv jv wr) (fun iv _ _ => n - (intOf iv).toNat)
  case atStart => exact ⟨0, xs, by omega, rfl, by congr 1; omega, RevAt.start xs HLL.out, H.out, Below.refl _ _, fun _ _ _ => rfl⟩
  case round =>
    obtain ⟨k, ys, hk, rfl, rfl, hrev, hown, hkeep⟩ := hrel
    have HREV := Lib.hid hrev
    have HOWN := Lib.hid hown
    have HKE := Lib.hid hkeep
    have hsz := hkeep.1.size
    clear hrev hown hkeep
    by_cases hlt : 2 * k + 1 < n
    · obtain ⟨q, hq⟩ := Int.eq_ofNat_of_zero_le (show 0 ≤ (n : Int) - 1 - k by omega)
      have hqn : q + k + 1 = n := by omega
      have hyl : ys.length = n := HREV.out.2.1
      have hkl : k < ys.length := by omega
      have hql : q < ys.length := by omega
      have ha : ys[k]? = some ys[k] := List.getElem?_eq_getElem hkl
      have hb : ys[q]? = some ys[q] := List.getElem?_eq_getElem hql
      have HO : Hid (wr.ownsRow B 31 2 (.slice (some ⟨g, 0, none⟩) n c) n (placeVs ys)) := by
        have h1 := HOWN.out
        unfold OwnP at h1
        rw [hyl] at h1
        exact h1
      obtain ⟨a, haa⟩ : ∃ a, ys[k] = a := ⟨_, rfl⟩
      obtain ⟨b, hbb⟩ : ∃ b, ys[q] = b := ⟨_, rfl⟩
      rw [haa] at ha
      rw [hbb] at hb
      have HST := Lib.hid (HREV.out.step hqn (by omega) ha hb)
      obtain ⟨a1, a2⟩ := a
      obtain ⟨b1, b2⟩ := b
      obtain ⟨m1, m2, _, m3⟩ := ownsRow_cell HO.out (placeVs_at ha).1
      obtain ⟨m4, m5, _, _⟩ := ownsRow_cell HO.out (placeVs_at ha).2
      obtain ⟨m6, m7, _, _⟩ := ownsRow_cell HO.out (placeVs_at hb).1
      obtain ⟨m8, m9, _, _⟩ := ownsRow_cell HO.out (placeVs_at hb).2
      have ne1 : ¬ k * 2 = q * 2 := by omega
      have ne2 : ¬ k * 2 = q * 2 + 1 := by omega
      have ne3 : ¬ k * 2 + 1 = q * 2 := by omega
      have hi1 : (k : Int) < n := by omega
      have hi2 : (q : Int) < n := by omega
      have hi3 : (k : Int) < (q : Int) := by omega
      have hne : ¬ k = q := by omega
      have HREL : Hid (RvRelP w B g c xs n (.int .i64 ((k : Int) + 1)) (.int .i64 ((q : Int) - 1)) ((((wr.setCell ⟨g, k * 2, none⟩ (.int .i64 b1)).setCell ⟨g, k * 2 + 1, none⟩ (.int .i64 b2)).setCell ⟨g, q * 2, none⟩ (.int .i64 a1)).setCell ⟨g, q * 2 + 1, none⟩ (.int .i64 a2)).drew) := by
        refine ⟨k + 1, _, by omega, by rw [Int.natCast_add]; rfl, by congr 1; omega, HST.out, ?_, (((((HKE.out.1).setCell (p := ⟨g, k * 2, none⟩) (Nat.le_refl _) _).setCell (p := ⟨g, k * 2 + 1, none⟩) (Nat.le_refl _) _).setCell (p := ⟨g, q * 2, none⟩) (Nat.le_refl _) _).setCell (p := ⟨g, q * 2 + 1, none⟩) (Nat.le_refl _) _).drew, fun x h1 h2 => ?_⟩
        · have h1 := ownsRow_set (ownsRow_set (ownsRow_set (ownsRow_set (w := wr) HO.out (k * 2) (.int .i64 b1)) (k * 2 + 1) (.int .i64 b2)) (q * 2) (.int .i64 a1)) (q * 2 + 1) (.int .i64 a2)
          rw [placeVs_set (by omega), placeVs_set (by simp; omega)] at h1
          unfold OwnP
          rw [List.length_set, List.length_set, hyl]
          exact h1
        · exact (Below.heap_setCell _ _ _ x h2).trans ((Below.heap_setCell _ _ _ x h2).trans ((Below.heap_setCell _ _ _ x h2).trans ((Below.heap_setCell _ _ _ x h2).trans (HKE.out.2 x h1 h2))))
      clear ha hb haa hbb hkl hql hyl
      go_wp2_with fail
      go_region
      go_wp2_with fail
      go_roundw
      case rel => exact HREL.out
      case measure => simp [intOf]; omega
    · have hge : ¬ (k : Int) < (n : Int) - 1 - k := by omega
      go_wp2_with fail
      go_end0
      have he := HREV.out.done (by omega)
      rw [← he]
      exact ⟨rfl, HOWN.out, HKE.out⟩

end Go.Proofs.YtnommkbcffikaaaDoor
