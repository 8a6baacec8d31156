/-
  A list of slices held across calls (Held), the exported functions' contracts without errors in its words, and words closed under the symmetries.
-/
import Derived.Test.YtenomnkdfiojbaaDoorLawsC
import Derived.Test.YtenomnkdfiojbaaDoorLawsF
import Derived.Test.YtenomnkdfiojbaaDoorLnB
namespace Go.Proofs.YtenomnkdfiojbaaDoor
open Go.RowKit

/-- The world W follows w, and these slices read these lists in it. -/
def Held (w W : World) (L : List (Option Addr × Nat × List Int)) : Prop := Below w.heap.size w W ∧ ∀ t, t ∈ L → SL W t.1 t.2.1 t.2.2
theorem Held.start {w : World} {A : Option Addr} {n : Nat} {xs : List Int} (h : SL w A n xs) : Held w w [(A, n, xs)] :=
  ⟨Below.refl _ _, fun t ht => by rw [List.mem_singleton] at ht; subst ht; exact h⟩
theorem Held.step {w W W' : World} {L : List (Option Addr × Nat × List Int)} (h : Held w W L) (hb : Below W.heap.size W W') : Held w W' L :=
  ⟨h.1.trans (hb.mono h.1.size), fun t ht => (h.2 t ht).below hb⟩
theorem Held.add {w W W' : World} {L : List (Option Addr × Nat × List Int)} {A : Option Addr} {n : Nat} {xs : List Int} (h : Held w W L) (hb : Below W.heap.size W W') (s : SL W' A n xs) : Held w W' ((A, n, xs) :: L) :=
  ⟨(h.step hb).1, fun t ht => (List.mem_cons.1 ht).elim (fun e => by subst e; exact s) (fun ht => (h.step hb).2 t ht)⟩
theorem Held.get {w W : World} {L : List (Option Addr × Nat × List Int)} {A : Option Addr} {n : Nat} {xs : List Int} (h : Held w W L) (i : Nat) (hi : L[i]? = some (A, n, xs)) : SL W A n xs := h.2 _ (List.mem_of_getElem? hi)

/-- What a function without an error leaves: its list, in n cells that can be read. -/
def OkPost (W : World) (res : List Int) (n : Nat) (e : Ending) (w' : World) : Prop :=
  ∃ A c, e = .returned (.tuple #[.slice A n c, .int .i64 0]) ∧ SL w' A n res ∧ n ≤ c ∧ Below W.heap.size W w'
theorem OkPost.of {W w' : World} {er : Int} {res : List Int} {e : Ending} {n : Nat} (he : er = 0) (hl : res.length = n) (h : ErrPost W er res e w') : OkPost W res n e w' := by
  obtain ⟨A, c, rfl, hown, hc, hb⟩ := ErrPost.get_ok he hl h
  exact ⟨A, c, rfl, hown.sl, hc, hb⟩

theorem validB_iff {k : Int} {xs : List Int} : validB k xs = true ↔ 0 ≤ k ∧ k ≤ 40 ∧ xs.length ≤ 400 ∧ xs.length % 2 = 0 ∧ ∀ x, x ∈ xs → 0 ≤ x ∧ x ≤ k := by
  unfold validB
  simp only [Bool.and_eq_true, decide_eq_true_eq, List.all_eq_true]
  constructor
  · rintro ⟨⟨⟨⟨a, b⟩, c⟩, d⟩, e⟩; exact ⟨a, b, c, d, e⟩
  · rintro ⟨a, b, c, d, e⟩; exact ⟨⟨⟨⟨a, b⟩, c⟩, d⟩, e⟩
theorem validB_reverse {k : Int} {xs : List Int} (h : validB k xs = true) : validB k xs.reverse = true := by
  rw [validB_iff] at h ⊢
  simpa using h
theorem validB_rot1 {k : Int} {xs : List Int} (h : validB k xs = true) : validB k (Ln.rot1 xs) = true := by
  rw [validB_iff] at h ⊢
  rw [Ln.length_rot1]
  exact ⟨h.1, h.2.1, h.2.2.1, h.2.2.2.1, fun x hx => h.2.2.2.2 x (Ln.mem_rot1.1 hx)⟩
theorem validB_mirror {k : Int} {xs : List Int} (h : validB k xs = true) : validB k (mirrorL k xs) = true := by
  rw [validB_iff] at h ⊢
  refine ⟨h.1, h.2.1, by simpa [mirrorL] using h.2.2.1, by simpa [mirrorL] using h.2.2.2.1, fun x hx => ?_⟩
  obtain ⟨y, hy, rfl⟩ := List.mem_map.1 hx
  have := h.2.2.2.2 y hy
  omega
theorem validB_normal {k : Int} {xs : List Int} (h : validB k xs = true) : validB k (Ln.normal xs) = true := by
  rw [validB_iff] at h ⊢
  have hl := Ln.length_normal xs
  exact ⟨h.1, h.2.1, by omega, by omega, fun x hx => h.2.2.2.2 x (Ln.mem_normal h.2.2.2.1 hx)⟩
theorem length_mirrorL (k : Int) (xs : List Int) : (mirrorL k xs).length = xs.length := by simp [mirrorL]
theorem mirror_mirror (k : Int) (xs : List Int) : mirrorL k (mirrorL k xs) = xs := by
  unfold mirrorL
  rw [List.map_map, List.map_congr_left (g := id) (fun x _ => by show k - (k - x) = x; omega), List.map_id]
theorem mirror_rot1 (k : Int) (xs : List Int) : mirrorL k (Ln.rot1 xs) = Ln.rot1 (mirrorL k xs) := Ln.map_rot1 _ xs
theorem normal_turn_twice {xs : List Int} (he : xs.length % 2 = 0) : Ln.normal (Ln.rot1 (Ln.rot1 xs)) = Ln.normal xs := Ln.normal_rotN2 xs he
theorem rot1_snoc_reverse (xs : List Int) : Ln.rot1 (Ln.rot1 xs).reverse = xs.reverse := by
  cases xs with
  | nil => rfl
  | cons a l => simp [Ln.rot1]
theorem normal_turn_reverse {xs : List Int} (he : xs.length % 2 = 0) : Ln.normal (Ln.rot1 xs).reverse = Ln.normal (Ln.rot1 xs.reverse) := by
  have h : Ln.rotN 2 (Ln.rot1 xs).reverse = Ln.rot1 xs.reverse := by
    show Ln.rot1 (Ln.rot1 (Ln.rot1 xs).reverse) = _
    rw [rot1_snoc_reverse]
  rw [← h, Ln.normal_rotN2 _ (by rw [List.length_reverse, Ln.length_rot1]; exact he)]

section
variable {w W : World} {L : List (Option Addr × Nat × List Int)} {A : Option Addr} {n : Nat} {xs : List Int}
theorem reverse_ok (cap : Nat) {k : Int} (h : SL W A n xs) (hn : n ≤ maxLen) (hv : validB k xs = true) : Calls Tryd.prog 23 #[.slice A n cap] W (OkPost W xs.reverse n) :=
  (reverse_calls A n cap xs W h hn).mono fun _ _ hp => OkPost.of (errB_of_valid' (errB_valid40 hv)) (by rw [List.length_reverse, h.1]) hp
theorem mirror_ok (cap : Nat) {k : Int} (h : SL W A n xs) (hn : n ≤ maxLen) (hv : validB k xs = true) : Calls Tryd.prog 24 #[.int .i64 k, .slice A n cap] W (OkPost W (mirrorL k xs) n) :=
  (mirror_calls k A n cap xs W h hn).mono fun _ _ hp => OkPost.of (errB_of_valid hv) (by rw [length_mirrorL, h.1]) hp
theorem turn_ok {cap : Nat} {k : Int} (h : SL W A n xs) (hn : n ≤ maxLen) (hc : n ≤ cap) (hv : validB k xs = true) : Calls Tryd.prog 25 #[.slice A n cap] W (OkPost W (Ln.rot1 xs) n) :=
  (turn_calls A n cap xs W h hn hc).mono fun _ _ hp => OkPost.of (errB_of_valid' (errB_valid40 hv)) (by rw [Ln.length_rot1, h.1]) hp
/-- What the law's normal leaves of a valid list. -/
def NrmPost (W : World) (res : List Int) (e : Ending) (w' : World) : Prop :=
  ∃ A c, e = .returned (.slice A res.length c) ∧ SL w' A res.length res ∧ res.length ≤ c ∧ Below W.heap.size W w'
theorem nrm_ok (cap : Nat) {k : Int} (h : SL W A n xs) (hn : n ≤ maxLen) (hv : validB k xs = true) : Calls Tryd.prog 31 #[.slice A n cap] W (NrmPost W (Ln.normal xs)) := by
  have he := errB_of_valid' (errB_valid40 hv)
  have := normalOf_calls A n cap (Ln.normal xs).length xs W h hn (by rw [if_pos he])
  rw [if_pos he] at this
  refine this.mono ?_
  rintro e w' ⟨B, c, rfl, hown, hc, hb⟩
  exact ⟨B, c, rfl, hown.sl, hc, hb⟩
theorem eq_ok (c1 c2 : Nat) {A2 : Option Addr} {m : Nat} {ys : List Int} (h1 : SL W A n xs) (h2 : SL W A2 m ys) (hn : n ≤ maxLen) (e : xs = ys) :
    Calls Tryd.prog 18 #[.slice A n c1, .slice A2 m c2] W fun e w' => e = .returned (.bool true) ∧ Below W.heap.size W w' := by
  have := equal_calls A A2 n c1 m c2 xs ys W h1 h2 hn
  rwa [decide_eq_true e] at this
end
end Go.Proofs.YtenomnkdfiojbaaDoor
