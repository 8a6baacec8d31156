/-
  The conditions of a code one after the other, as stages.
-/
import Derived.Test.YtnommkbcffikaaaDoorFlat
namespace Go.Proofs.YtnommkbcffikaaaDoor
open Go.RowKit

/-- The other blocks stay. -/
def Keep (P : Nat) (w w' : World) : Prop := Below P w w' ∧ ∀ k, k < w.heap.size → k ≠ P → w'.heap[k]? = w.heap[k]?
theorem Keep.of {P : Nat} {w w' : World} (h : Below w.heap.size w w') (hP : P < w.heap.size) : Keep P w w' := ⟨h.mono (Nat.le_of_lt hP), fun k hk _ => h.block k hk⟩
theorem BL.of_own {w : World} {g n c B : Nat} {bs : List Bool} (h : OwnV w B 4 (.slice (some ⟨g, 0, none⟩) n c) (bs.map Value.bool)) : BL w (some ⟨g, 0, none⟩) n bs := by
  have hl := h.len
  rw [List.length_map] at hl
  refine ⟨hl, fun hn => ⟨g, 0, rfl, (h.lt g rfl).2, fun k x hk => ?_⟩⟩
  have hkn : k < n := by
    rcases Nat.lt_or_ge k bs.length with q | q
    · omega
    · rw [List.getElem?_eq_none q] at hk; cases hk
  obtain ⟨y, hy, hc, _⟩ := h.cell hkn
  rw [List.getElem?_map, hk] at hy
  injection hy with hy
  rw [Nat.zero_add, hc, ← hy]
theorem SL.of_ownV {w : World} {g n c B : Nat} {xs : List Nat} (h : OwnV w B 3 (.slice (some ⟨g, 0, none⟩) n c) (xs.map intV)) : SL w (some ⟨g, 0, none⟩) n (xs.map Int.ofNat) := by
  have hl := h.len
  rw [List.length_map] at hl
  refine ⟨by rw [List.length_map]; exact hl, fun hn => ⟨g, 0, rfl, (h.lt g rfl).2, fun k hk => ?_⟩⟩
  obtain ⟨y, hy, hc, _⟩ := h.cell hk
  have hx : xs[k]? = some xs[k] := List.getElem?_eq_getElem (by omega)
  rw [List.getElem?_map, hx] at hy
  injection hy with hy
  rw [Nat.zero_add, hc, ← hy, List.getElem?_map, hx]
  rfl

def closedB (ls : List Lt) : Bool := decide (ls.length = 0) || (ls.head?.any isPass && decide (cntB isPass ls % 2 = 0))
instance (f : Int) (l : Lt) : Decidable (plainL f l) := by unfold plainL; exact inferInstance
/-- How many passes there are. -/
def numP (f : Int) (ls : List Lt) : Nat := (befG ls (f.toNat + 1)).toNat
/-- The map of a code, from what has been noted. -/
def dmOf (f : Int) (ls : List Lt) (st : OrdS) (pt : PairS) : DM := ⟨ls.length, numP f ls, ls, aboveL ls, st.ax, st.sp, pt.ot⟩
def flatB (D : DM) : Bool := decide (D.n = 0) || decide (((D.outer (2 * D.n)).all.length : Int) = (D.m : Int) + cntK 2 D.ls / 2 + 2)
/-- The error of a code. -/
def checkE (f : Int) (ls : List Lt) : Int :=
  if shortB ls = false then 7 else if ¬ (0 ≤ f ∧ f ≤ 40) then 2 else if closedB ls = false then 3 else if ¬ (∀ l, l ∈ ls → plainL f l) then 3 else
    match ordM ls (numP f ls) ls.length ls.length with
    | none => 3
    | some st => match pairM ls (cntK 2 ls / 2) ls.length ls.length with
      | none => 3
      | some pt => if flatB (dmOf f ls st pt) = true then 0 else 3

theorem numP_eq (f : Int) (ls : List Lt) : befG ls (f.toNat + 1) = (numP f ls : Nat) := by
  unfold numP
  have := (befG_bd ls (f.toNat + 1)).1
  omega
theorem numP_le {f : Int} {ls : List Lt} (hf : 0 ≤ f ∧ f ≤ 40) (hn : ls.length ≤ 400) : numP f ls ≤ 1000000 := by
  have h1 := (befG_bd ls (f.toNat + 1)).2
  have h2 : ((f.toNat + 1 : Nat) : Int) * (ls.length : Int) ≤ 41 * 400 := by
    have e2 : ((f.toNat + 1 : Nat) : Int) ≤ 41 := by omega
    have := Int.mul_le_mul e2 (show (ls.length : Int) ≤ 400 by omega) (by omega) (by omega)
    omega
  rw [numP_eq] at h1
  omega
theorem dmOf_ok {f : Int} {ls : List Lt} {st : OrdS} {pt : PairS} (hs : shortB ls = true) (hf : 0 ≤ f ∧ f ≤ 40) (hp : ∀ l, l ∈ ls → plainL f l) (h0 : 0 < ls.length)
    (ho : ordM ls (numP f ls) ls.length ls.length = some st) (hq : pairM ls (cntK 2 ls / 2) ls.length ls.length = some pt) : (dmOf f ls st pt).ok := by
  have hl : ls.length ≤ 400 := by unfold shortB at hs; simp at hs; exact hs.1
  obtain ⟨i1, i2, i3, i4, i5⟩ := ordM_facts h0 (Nat.le_refl _) ho
  obtain ⟨j1, j2⟩ := pairM_facts h0 (Nat.le_refl _) hq
  refine ⟨rfl, by simp [dmOf, aboveL], i2, i3, j1, h0, by show ls.length ≤ 1000; omega, numP_le hf hl, fun q _ => i4 q, fun i l hi hk => ?_, fun i _ => j2 i⟩
  have hi' : ls[i]? = some l := hi
  have hlt : i < ls.length := by
    rcases Nat.lt_or_ge i ls.length with q | q
    · exact q
    · rw [List.getElem?_eq_none q] at hi'; cases hi'
  have hk1 : l.kind = 1 := by
    rcases hp l (List.mem_of_getElem? hi') with h | h
    · exact h.1
    · exact absurd h.1 hk
  exact i5 i l hlt hi' hk1

/-- Where the conditions are. -/
def Stage (f : Int) (A : Option Addr) (n c : Nat) (ls : List Lt) (P : Nat) (wr : World) : Nat → Prop
  | 0 => DiaB wr P f (.slice A n c) (.slice none 0 0) (.slice none 0 0) (.slice none 0 0) (.slice none 0 0)
  | 1 => shortB ls = true ∧ DiaB wr P f (.slice A n c) (.slice none 0 0) (.slice none 0 0) (.slice none 0 0) (.slice none 0 0)
  | 2 => shortB ls = true ∧ (0 ≤ f ∧ f ≤ 40) ∧ DiaB wr P f (.slice A n c) (.slice none 0 0) (.slice none 0 0) (.slice none 0 0) (.slice none 0 0)
  | 3 => shortB ls = true ∧ (0 ≤ f ∧ f ≤ 40) ∧ closedB ls = true ∧ ∃ ga, P < ga ∧ DiaB wr P f (.slice A n c) (.slice (some ⟨ga, 0, none⟩) n n) (.slice none 0 0) (.slice none 0 0) (.slice none 0 0) ∧
      OwnV wr ga 4 (.slice (some ⟨ga, 0, none⟩) n n) ((aboveL ls).map Value.bool)
  | 4 => shortB ls = true ∧ (0 ≤ f ∧ f ≤ 40) ∧ closedB ls = true ∧ (∀ l, l ∈ ls → plainL f l) ∧ ∃ ga, P < ga ∧ DiaB wr P f (.slice A n c) (.slice (some ⟨ga, 0, none⟩) n n) (.slice none 0 0) (.slice none 0 0) (.slice none 0 0) ∧
      OwnV wr ga 4 (.slice (some ⟨ga, 0, none⟩) n n) ((aboveL ls).map Value.bool)
  | 5 => shortB ls = true ∧ (0 ≤ f ∧ f ≤ 40) ∧ closedB ls = true ∧ (∀ l, l ∈ ls → plainL f l) ∧ ∃ ga x s st, P < ga ∧ P < x ∧ P < s ∧ ordM ls (numP f ls) n n = some st ∧
      DiaB wr P f (.slice A n c) (.slice (some ⟨ga, 0, none⟩) n n) (.slice (some ⟨x, 0, none⟩) (numP f ls) (numP f ls)) (.slice (some ⟨s, 0, none⟩) n n) (.slice none 0 0) ∧
      OwnV wr ga 4 (.slice (some ⟨ga, 0, none⟩) n n) ((aboveL ls).map Value.bool) ∧ OwnV wr x 3 (.slice (some ⟨x, 0, none⟩) (numP f ls) (numP f ls)) (st.ax.map intV) ∧ OwnV wr s 3 (.slice (some ⟨s, 0, none⟩) n n) (st.sp.map intV)
  | 6 => shortB ls = true ∧ (0 ≤ f ∧ f ≤ 40) ∧ closedB ls = true ∧ (∀ l, l ∈ ls → plainL f l) ∧ ∃ ga x s o st pt, P < ga ∧ P < x ∧ P < s ∧ P < o ∧ ordM ls (numP f ls) n n = some st ∧ pairM ls (cntK 2 ls / 2) n n = some pt ∧
      DiaB wr P f (.slice A n c) (.slice (some ⟨ga, 0, none⟩) n n) (.slice (some ⟨x, 0, none⟩) (numP f ls) (numP f ls)) (.slice (some ⟨s, 0, none⟩) n n) (.slice (some ⟨o, 0, none⟩) n n) ∧
      OwnV wr ga 4 (.slice (some ⟨ga, 0, none⟩) n n) ((aboveL ls).map Value.bool) ∧ OwnV wr x 3 (.slice (some ⟨x, 0, none⟩) (numP f ls) (numP f ls)) (st.ax.map intV) ∧ OwnV wr s 3 (.slice (some ⟨s, 0, none⟩) n n) (st.sp.map intV) ∧
      OwnV wr o 3 (.slice (some ⟨o, 0, none⟩) n n) (pt.ot.map intV)
  | _ => shortB ls = true ∧ (0 ≤ f ∧ f ≤ 40) ∧ closedB ls = true ∧ (∀ l, l ∈ ls → plainL f l) ∧ ∃ ga x s o st pt, P < ga ∧ P < x ∧ P < s ∧ P < o ∧ ordM ls (numP f ls) n n = some st ∧ pairM ls (cntK 2 ls / 2) n n = some pt ∧ flatB (dmOf f ls st pt) = true ∧
      DiaB wr P f (.slice A n c) (.slice (some ⟨ga, 0, none⟩) n n) (.slice (some ⟨x, 0, none⟩) (numP f ls) (numP f ls)) (.slice (some ⟨s, 0, none⟩) n n) (.slice (some ⟨o, 0, none⟩) n n) ∧
      OwnV wr ga 4 (.slice (some ⟨ga, 0, none⟩) n n) ((aboveL ls).map Value.bool) ∧ OwnV wr x 3 (.slice (some ⟨x, 0, none⟩) (numP f ls) (numP f ls)) (st.ax.map intV) ∧ OwnV wr s 3 (.slice (some ⟨s, 0, none⟩) n n) (st.sp.map intV) ∧
      OwnV wr o 3 (.slice (some ⟨o, 0, none⟩) n n) (pt.ot.map intV)

section
variable {f : Int} {A : Option Addr} {n c : Nat} {ls : List Lt} {P : Nat} {wr w' : World}
theorem Stage.below (hP : P < wr.heap.size) (hb : Below wr.heap.size wr w') : ∀ j, Stage f A n c ls P wr j → Stage f A n c ls P w' j
  | 0, h => DiaB.kept h (hb.block P hP)
  | 1, ⟨h1, h⟩ => ⟨h1, h.kept (hb.block P hP)⟩
  | 2, ⟨h1, h2, h⟩ => ⟨h1, h2, h.kept (hb.block P hP)⟩
  | 3, ⟨h1, h2, h3, ga, g1, h, o1⟩ => ⟨h1, h2, h3, ga, g1, h.kept (hb.block P hP), o1.below hb⟩
  | 4, ⟨h1, h2, h3, h4, ga, g1, h, o1⟩ => ⟨h1, h2, h3, h4, ga, g1, h.kept (hb.block P hP), o1.below hb⟩
  | 5, ⟨h1, h2, h3, h4, ga, x, s, st, g1, g2, g3, e1, h, o1, o2, o3⟩ => ⟨h1, h2, h3, h4, ga, x, s, st, g1, g2, g3, e1, h.kept (hb.block P hP), o1.below hb, o2.below hb, o3.below hb⟩
  | 6, ⟨h1, h2, h3, h4, ga, x, s, o, st, pt, g1, g2, g3, g4, e1, e2, h, o1, o2, o3, o4⟩ => ⟨h1, h2, h3, h4, ga, x, s, o, st, pt, g1, g2, g3, g4, e1, e2, h.kept (hb.block P hP), o1.below hb, o2.below hb, o3.below hb, o4.below hb⟩
  | _ + 7, ⟨h1, h2, h3, h4, ga, x, s, o, st, pt, g1, g2, g3, g4, e1, e2, e3, h, o1, o2, o3, o4⟩ => ⟨h1, h2, h3, h4, ga, x, s, o, st, pt, g1, g2, g3, g4, e1, e2, e3, h.kept (hb.block P hP), o1.below hb, o2.below hb, o3.below hb, o4.below hb⟩

/-- What a condition leaves. -/
def CondPost (f : Int) (A : Option Addr) (n c : Nat) (ls : List Lt) (P : Nat) (w : World) (j : Nat) (err : Int) (e : Ending) (w' : World) : Prop :=
  ∃ b, e = .returned (.bool b) ∧ Keep P w w' ∧ (b = true → Stage f A n c ls P w' (j + 1)) ∧ (b = false → checkE f ls = err)

theorem stage0 (hP : P < wr.heap.size) (hL : LS wr A n ls) (h : Stage f A n c ls P wr 0) :
    Calls Tryd.prog 96 #[.pointer (some ⟨P, 0, none⟩)] wr (CondPost f A n c ls P wr 0 7) := by
  refine (short_calls P f A n c ls _ _ _ _ wr (DiaB.dia h) hL).mono ?_
  rintro e w' ⟨rfl, hb⟩
  exact ⟨_, rfl, Keep.of hb hP, fun e => ⟨e, DiaB.kept h (hb.block P hP)⟩, fun e => by unfold checkE; rw [if_pos e]⟩
theorem stage1 (hP : P < wr.heap.size) (_hL : LS wr A n ls) (h : Stage f A n c ls P wr 1) :
    Calls Tryd.prog 97 #[.pointer (some ⟨P, 0, none⟩)] wr (CondPost f A n c ls P wr 1 2) := by
  obtain ⟨h1, h⟩ := h
  refine (fingered_calls P f _ _ _ _ _ wr h.dia).mono ?_
  rintro e w' ⟨rfl, hb⟩
  exact ⟨_, rfl, Keep.of hb hP, fun e => ⟨h1, by simpa using e, h.kept (hb.block P hP)⟩, fun e => by unfold checkE; rw [if_neg (by simp [h1]), if_pos (by simpa using e)]⟩
theorem stage2 (hP : P < wr.heap.size) (hL : LS wr A n ls) (hA : ∀ b off, A = some ⟨b, off, none⟩ → b ≠ P) (h : Stage f A n c ls P wr 2) :
    Calls Tryd.prog 98 #[.pointer (some ⟨P, 0, none⟩)] wr (CondPost f A n c ls P wr 2 3) := by
  obtain ⟨h1, h2, h⟩ := h
  have hl : ls.length ≤ 400 := by unfold shortB at h1; simp at h1; exact h1.1
  refine (closed_calls P f A n c ls _ _ _ _ wr h hL hA (by have := hL.1; omega)).mono ?_
  rintro e w' ⟨rfl, hd, ho, hk, hb⟩
  refine ⟨_, rfl, ⟨hb, hk⟩, fun e => ⟨h1, h2, by rw [← e, ← hL.1]; rfl, wr.heap.size, hP, hd, ho⟩, fun e => ?_⟩
  unfold checkE
  rw [if_neg (by simp [h1]), if_neg (by simp [h2]), if_pos (by rw [← e, ← hL.1]; rfl)]
theorem stage3 (hP : P < wr.heap.size) (hL : LS wr A n ls) (h : Stage f A n c ls P wr 3) :
    Calls Tryd.prog 99 #[.pointer (some ⟨P, 0, none⟩)] wr (CondPost f A n c ls P wr 3 3) := by
  obtain ⟨h1, h2, h3, ga, hg, h, ho⟩ := h
  have hl : ls.length ≤ 400 := by unfold shortB at h1; simp at h1; exact h1.1
  refine (plain_calls P f A n c ls _ _ _ _ wr h.dia hL (by have := hL.1; omega)).mono ?_
  rintro e w' ⟨b, rfl, hbb, hb⟩
  refine ⟨_, rfl, Keep.of hb hP, fun e => ⟨h1, h2, h3, hbb.1 e, ga, hg, h.kept (hb.block P hP), ho.below hb⟩, fun e => ?_⟩
  unfold checkE
  rw [if_neg (by simp [h1]), if_neg (by simp [h2]), if_neg (by simp [h3]), if_pos (fun c => by rw [hbb.2 c] at e; cases e)]
theorem stage4 (hP : P < wr.heap.size) (hL : LS wr A n ls) (hA : ∀ b off, A = some ⟨b, off, none⟩ → b ≠ P) (h : Stage f A n c ls P wr 4) :
    Calls Tryd.prog 100 #[.pointer (some ⟨P, 0, none⟩)] wr (CondPost f A n c ls P wr 4 3) := by
  obtain ⟨h1, h2, h3, h4, ga, hg, h, ho⟩ := h
  have hl : ls.length ≤ 400 := by unfold shortB at h1; simp at h1; exact h1.1
  have hfe : ((f.toNat : Nat) : Int) = f := by omega
  have hd : DiaB wr P (f.toNat : Int) (.slice A n c) (.slice (some ⟨ga, 0, none⟩) n n) (.slice none 0 0) (.slice none 0 0) (.slice none 0 0) := by rw [hfe]; exact h
  refine (ordered_calls P f.toNat (numP f ls) A n c ls _ _ _ _ wr hd hL hA (by have := hL.1; omega) (by omega) (fun l hl hk => ?_) (numP_eq f ls)).mono ?_
  · rcases h4 l hl with h | h
    · rw [hfe]; exact ⟨h.2.2.2.2.1, h.2.2.2.2.2⟩
    · rw [h.1] at hk; cases hk
  · rintro e w' ⟨hb, hk, ⟨hn, rfl⟩ | ⟨st, x, s, hs, rfl, hx, hxs, hd', hox, hos⟩⟩
    · refine ⟨_, rfl, ⟨hb, hk⟩, fun e => (by cases e), fun _ => ?_⟩
      unfold checkE
      rw [if_neg (by simp [h1]), if_neg (by simp [h2]), if_neg (by simp [h3]), if_neg (fun c => c h4), hL.1, hn]
    · rw [hfe] at hd'
      have hga := (ho.lt ga rfl).2
      exact ⟨_, rfl, ⟨hb, hk⟩, fun _ => ⟨h1, h2, h3, h4, ga, x, s, st, hg, by omega, by omega, hs, hd', ho.kept (hk ga hga (by omega)), hox, hos⟩, fun e => (by cases e)⟩
theorem stage5 (hP : P < wr.heap.size) (hL : LS wr A n ls) (hA : ∀ b off, A = some ⟨b, off, none⟩ → b ≠ P) (hI : ∀ l, l ∈ ls → I64 l.id) (h : Stage f A n c ls P wr 5) :
    Calls Tryd.prog 101 #[.pointer (some ⟨P, 0, none⟩)] wr (CondPost f A n c ls P wr 5 3) := by
  obtain ⟨h1, h2, h3, h4, ga, x, s, st, g1, g2, g3, e1, h, o1, o2, o3⟩ := h
  have hl : ls.length ≤ 400 := by unfold shortB at h1; simp at h1; exact h1.1
  refine (paired_calls P f A n c ls _ _ _ _ wr h hL hA (by have := hL.1; omega) hI).mono ?_
  rintro e w' ⟨hb, hk, ⟨hn, rfl⟩ | ⟨pt, o, hs, rfl, hx, hd', hoo⟩⟩
  · refine ⟨_, rfl, ⟨hb, hk⟩, fun e => (by cases e), fun _ => ?_⟩
    unfold checkE
    rw [if_neg (by simp [h1]), if_neg (by simp [h2]), if_neg (by simp [h3]), if_neg (fun c => c h4), hL.1, e1, hn]
  · exact ⟨_, rfl, ⟨hb, hk⟩, fun _ => ⟨h1, h2, h3, h4, ga, x, s, o, st, pt, g1, g2, g3, by omega, e1, hs, hd', o1.kept (hk ga (o1.lt ga rfl).2 (by omega)), o2.kept (hk x (o2.lt x rfl).2 (by omega)), o3.kept (hk s (o3.lt s rfl).2 (by omega)), hoo⟩, fun e => (by cases e)⟩
theorem stage6 (hP : P < wr.heap.size) (hL : LS wr A n ls) (h : Stage f A n c ls P wr 6) :
    Calls Tryd.prog 102 #[.pointer (some ⟨P, 0, none⟩)] wr (CondPost f A n c ls P wr 6 3) := by
  obtain ⟨h1, h2, h3, h4, ga, x, s, o, st, pt, g1, g2, g3, g4, e1, e2, h, o1, o2, o3, o4⟩ := h
  have hll := hL.1
  subst hll
  have hfin : ∀ (b : Bool) (w' : World), Below wr.heap.size wr w' → b = flatB (dmOf f ls st pt) → CondPost f A ls.length c ls P wr 6 3 (.returned (.bool b)) w' := by
    intro b w' hb hbe
    refine ⟨_, rfl, Keep.of hb hP, fun e => ⟨h1, h2, h3, h4, ga, x, s, o, st, pt, g1, g2, g3, g4, e1, e2, by rw [← hbe, e], h.kept (hb.block P hP), o1.below hb, o2.below hb, o3.below hb, o4.below hb⟩, fun e => ?_⟩
    unfold checkE
    rw [if_neg (by simp [h1]), if_neg (by simp [h2]), if_neg (by simp [h3]), if_neg (fun c => c h4), e1, e2]
    dsimp only
    rw [if_neg (by rw [← hbe, e]; simp)]
  rcases Nat.eq_zero_or_pos ls.length with h0 | h0
  · have hd := h.dia
    have hz := flat_zero P f A c _ _ _ _ wr (by rw [h0] at hd; exact hd)
    refine hz.mono ?_
    rintro e w' ⟨rfl, hb⟩
    exact hfin true w' hb (by unfold flatB dmOf; dsimp only; simp [h0])
  · have hok := dmOf_ok h1 h2 h4 h0 e1 e2
    refine (flat_calls (D := dmOf f ls st pt) hok (w := wr) (P := P) (f := f) (A := A) (Aa := some ⟨ga, 0, none⟩) (Ax := some ⟨x, 0, none⟩) (As := some ⟨s, 0, none⟩) (Ao := some ⟨o, 0, none⟩) (c := c) (ca := ls.length) (cx := numP f ls) (cs := ls.length) (co := ls.length)
      ⟨h.dia, hL, BL.of_own o1, SL.of_ownV o2, SL.of_ownV o3, SL.of_ownV o4⟩).mono ?_
    rintro e w' ⟨rfl, hb⟩
    refine hfin _ w' hb ?_
    unfold flatB
    have : ¬ (dmOf f ls st pt).n = 0 := by show ¬ ls.length = 0; omega
    simp [this]
end

end Go.Proofs.YtnommkbcffikaaaDoor
