/-
  RenP PureM NormP, one after the other.
-/
import Derived.Test.YtjdabkniojmacaaDoorNorm
import Derived.Test.YtjdabkniojmacaaDoorPureN
import Derived.Test.YtjdabkniojmacaaDoorRenm

/-
  The walk of Rename on any valid code.
-/
namespace Go.Proofs.YtjdabkniojmacaaDoor
open Go.RowKit

theorem heap_ltP {w : World} {q : Nat} {o : Obj} (h : w.heap[q]? = some o) : q < w.heap.size := by
  rcases Nat.lt_or_ge q w.heap.size with c | c
  · exact c
  · rw [Array.getElem?_eq_none c] at h; cases h
set_option maxRecDepth 100000 in
theorem clone_zero (A : Option Addr) (c : Nat) (w : World) (hz : A = none → c = 0) (hsp : ∀ a, A = some a → a.spot = none) :
    Calls Tryd.prog 107 #[.slice A 0 c] w fun e w' => ∃ Av cv, e = .returned (.slice Av 0 cv) ∧ Below w.heap.size w w' := by
  cases A with
  | none =>
    obtain rfl : c = 0 := hz rfl
    have heq : (binOp BinOp.eql 22 (.slice none 0 0) (.slice none 0 0)).run Tryd.prog w = .ok (.bool true) w := by first | rfl | kernel_rfl
    go_enter Tryd.func107, Tryd.ntmps107
    go_wp2_with fail
    go_ret
    exact ⟨⟨none, 0, by first | rfl | kernel_rfl⟩, Below.refl _ _⟩
  | some a =>
    obtain ⟨b, off, sp⟩ := a
    obtain rfl : sp = none := hsp _ rfl
    refine (cloneL_calls b off 0 c [] w ⟨rfl, fun h => absurd h (by omega)⟩ (by omega)).mono ?_
    rintro e w' ⟨v, rfl, ho, hb⟩
    unfold OwnL at ho
    obtain ⟨Av, cv, rfl⟩ := own_form ho
    exact ⟨Av, cv, rfl, hb⟩

set_option maxHeartbeats 4000000 in
set_option maxRecDepth 100000 in
theorem renamed_zero (f : Int) (A : Option Addr) (c : Nat) (w : World) (hz : A = none → c = 0) (hsp : ∀ a, A = some a → a.spot = none) :
    Calls Tryd.prog 66 #[.agg #[.int .i64 f, .slice A 0 c]] w fun e w' => ∃ Av cv, e = .returned (.agg #[.int .i64 f, .slice Av 0 cv]) ∧ Below w.heap.size w w' := by
  have HCL := Lib.hid (fun W => clone_zero A c W hz hsp)
  have HCX : Hid (∀ W, Calls Tryd.prog 19 #[.agg #[.int .i64 f, .slice A 0 c]] W fun e w' => e = .returned (.int .i64 0) ∧ Below W.heap.size W w') :=
    fun W => crossings_calls f _ 0 c [] W ⟨rfl, fun h => absurd h (by omega)⟩ (by omega)
  clear hz hsp
  go_enter Tryd.func66, Tryd.ntmps66
  go_wp2_with fail
  obtain ⟨W1, hW1⟩ : ∃ W1, W1 = (w.alloc (.cells #[.int .i64 f, .slice A 0 c] 24)).alloc (.cells #[.int .i64 0, .slice none 0 0] 24) := ⟨_, rfl⟩
  have HF1 := Lib.hid (two_mem w _ _ W1 hW1)
  have a0 := Lib.cell_of_heap HF1.out.1 0
  have a1 := Lib.cell_of_heap HF1.out.1 1
  have hs1 : W1.heap.size = w.heap.size + 1 + 1 := by rw [hW1]; simp
  have HS1 := Lib.hid hs1
  have HC0 : Hid (∀ W, Below W1.heap.size W1 W → W.cell? ⟨w.heap.size, 0, none⟩ = some (.int .i64 f)) := fun W hW => (hW.cell (p := ⟨w.heap.size, 0, none⟩) (by show w.heap.size < W1.heap.size; omega)).trans a0
  have HC1 : Hid (∀ W, Below W1.heap.size W1 W → W.cell? ⟨w.heap.size, 1, none⟩ = some (.slice A 0 c)) := fun W hW => (hW.cell (p := ⟨w.heap.size, 1, none⟩) (by show w.heap.size < W1.heap.size; omega)).trans a1
  have HBA2 : Hid (∀ o, Below W1.heap.size W1 (W1.drew.alloc o)) := fun o => ((Below.refl W1.heap.size W1).drew).alloc (Nat.le_refl _) o
  have HBA1 : Hid (∀ o, Below W1.heap.size W1 (W1.alloc o).drew) := fun o => ((Below.refl _ _).alloc (Nat.le_refl _) o).drew
  rw [← hW1]
  clear hW1
  go_cut [3] (fun rv wx => ∃ R Av cv, rv = .pointer (some ⟨R, 0, none⟩) ∧ wx.heap[R]? = some (.cells #[.int .i64 f, .slice Av 0 cv] 24 (0, 0)) ∧ W1.heap.size ≤ R ∧ Below W1.heap.size W1 wx)
  case first =>
    go_region_held3 (fun w' => w'.cell? ⟨w.heap.size, 0, none⟩ = some (.int .i64 f) ∧ w'.cell? ⟨w.heap.size, 1, none⟩ = some (.slice A 0 c) ∧ Below W1.heap.size W1 w')
      (first
        | exact ⟨HC0.out _ (Below.refl _ _).drew, HC1.out _ (Below.refl _ _).drew, (Below.refl _ _).drew⟩
        | exact ⟨HC0.out _ (HBA1.out _), HC1.out _ (HBA1.out _), HBA1.out _⟩
        | exact ⟨HC0.out _ (HBA2.out _), HC1.out _ (HBA2.out _), HBA2.out _⟩
        | exact ⟨HC0.out _ hB2, HC1.out _ hB2, hB2⟩
        | exact ⟨HC0.out _ (hB2.alloc hB2.size _), HC1.out _ (hB2.alloc hB2.size _), hB2.alloc hB2.size _⟩
        | exact ⟨HC0.out _ ((hB2.setCell (p := ⟨w.heap.size + 1 + 1, 0, none⟩) (by show W1.heap.size ≤ w.heap.size + 1 + 1; have := HS1.out; omega) _).setCell (p := ⟨w.heap.size + 1 + 1, 1, none⟩) (by show W1.heap.size ≤ w.heap.size + 1 + 1; have := HS1.out; omega) _), HC1.out _ ((hB2.setCell (p := ⟨w.heap.size + 1 + 1, 0, none⟩) (by show W1.heap.size ≤ w.heap.size + 1 + 1; have := HS1.out; omega) _).setCell (p := ⟨w.heap.size + 1 + 1, 1, none⟩) (by show W1.heap.size ≤ w.heap.size + 1 + 1; have := HS1.out; omega) _), ((hB2.setCell (p := ⟨w.heap.size + 1 + 1, 0, none⟩) (by show W1.heap.size ≤ w.heap.size + 1 + 1; have := HS1.out; omega) _).setCell (p := ⟨w.heap.size + 1 + 1, 1, none⟩) (by show W1.heap.size ≤ w.heap.size + 1 + 1; have := HS1.out; omega) _)⟩)
      (first
        | (go_at_call 107; (with_reducible refine (HCL.out ((W1.alloc _).drew)).mono ?_); rintro e w2 ⟨Av, cv, rfl, hb⟩; have hB2 : Below W1.heap.size W1 w2 := (HBA1.out _).trans (hb.mono (HBA1.out _).size); have hnw : w2.heap[W1.heap.size]? = some (.cells #[.int .i64 0, .slice none 0 0] 24 (0, 0)) := (hb.block W1.heap.size (by simp)).trans (heap_alloc_new W1 _); rw [HS1.out] at hnw; have HNW := Lib.hid hnw; have r0 := Lib.cell_of_heap hnw 0; have r1 := Lib.cell_of_heap hnw 1; have rf : ∀ x, w2.frozen? ⟨w.heap.size + 1 + 1, x, none⟩ = false := (by intro x; simp [World.frozen?, hnw]); clear hb hnw)
        | (go_at_call 107; (with_reducible refine (HCL.out W1.drew).mono ?_); rintro e w2 ⟨Av, cv, rfl, hb⟩; have hB2 : Below W1.heap.size W1 w2 := ((Below.refl W1.heap.size W1).drew).trans hb; clear hb))
    all_goals
      have HB2 := Lib.hid hB2
      go_wp2_with fail
      go_meet
      case rel =>
        first
          | exact ⟨_, Av, cv, rfl, by simp [World.setCell, Array.getElem?_modify, HNW.out], by have := HS1.out; omega, ((HB2.out.setCell (p := ⟨w.heap.size + 1 + 1, 0, none⟩) (by show W1.heap.size ≤ w.heap.size + 1 + 1; have := HS1.out; omega) _).setCell (p := ⟨w.heap.size + 1 + 1, 1, none⟩) (by show W1.heap.size ≤ w.heap.size + 1 + 1; have := HS1.out; omega) _)⟩
          | exact ⟨_, Av, cv, rfl, heap_alloc_new w2 _, HB2.out.size, HB2.out.alloc HB2.out.size _⟩
  case rest =>
    obtain ⟨R, Av, cv, rfl, h3, h4, h6⟩ := hcut
    have H6 := Lib.hid h6
    have HR3 := Lib.hid h3
    have x0 := HC0.out _ h6
    have x1 := HC1.out _ h6
    have hPl : w.heap.size < wc.heap.size := by have := h6.size; have := HS1.out; omega
    clear h3 h6 a0 a1
    go_wp2_with (first
      | (go_at_call 19; refine (HCX.out _).mono ?_; rintro e w3 ⟨rfl, hb3⟩; have HB3 := Lib.hid hb3; have hs3 := hb3.size; have y0 := (hb3.cell (p := ⟨w.heap.size, 0, none⟩) hPl).trans x0; have y1 := (hb3.cell (p := ⟨w.heap.size, 1, none⟩) hPl).trans x1; clear hb3)
      | (at_make; refine wpList_make_intsV rfl _ _ rfl 1 (1 : Int) rfl rfl rfl (by omega) ?_; intro w4 hown4 hb4; have HB4 := Lib.hid hb4; have z0 := (hb4.cell (p := ⟨w.heap.size, 0, none⟩) (by show w.heap.size < w3.heap.size; omega)).trans y0; have z1 := (hb4.cell (p := ⟨w.heap.size, 1, none⟩) (by show w.heap.size < w3.heap.size; omega)).trans y1; clear hown4 hb4))
    have hb14 : Below W1.heap.size W1 w4 := H6.out.trans ((HB3.out.trans (HB4.out.mono HB3.out.size)).mono H6.out.size)
    have hres := (hb14.block _ (heap_ltP (by have := HF1.out.2.1; exact this))).trans HF1.out.2.1
    have hR4 := (HB4.out.block R (Nat.lt_of_lt_of_le (heap_ltP HR3.out) hs3)).trans ((HB3.out.block R (heap_ltP HR3.out)).trans HR3.out)
    have HBW : Hid (Below w.heap.size w w4) := HF1.out.2.2.2.trans (hb14.mono HF1.out.2.2.2.size)
    have HRES := Lib.hid hres
    have u0 := Lib.cell_of_heap hR4 0
    have u1 := Lib.cell_of_heap hR4 1
    have v0 := Lib.cell_of_heap hres 0
    have v1 := Lib.cell_of_heap hres 1
    have rf : ∀ x, w4.frozen? ⟨w.heap.size + 1, x, none⟩ = false := by intro x; simp [World.frozen?, hres]
    clear hb14 hres hR4
    go_loopw [5, 21] (fun lv iv wr => lv = .int .i64 0 ∧ iv = .int .i64 0 ∧ wr = w4) (fun _ _ _ => 0)
    case atStart => exact ⟨rfl, rfl, rfl⟩
    case round =>
      obtain ⟨rfl, rfl, rfl⟩ := hrel
      go_wp2_with fail
      obtain ⟨X, hX⟩ : ∃ X, X = (wr.setCell ⟨w.heap.size + 1, 0, none⟩ (.int .i64 f)).setCell ⟨w.heap.size + 1, 1, none⟩ (.slice Av 0 cv) := ⟨_, rfl⟩
      obtain ⟨k0, k1, hXB, _, _⟩ := res_end HRES.out (by omega) HBW.out _ _ hX
      rw [← hX]
      exact bodyPost_ret (v := .agg #[.int .i64 f, .slice Av 0 cv]) (by simp [results, Tryd.results66, go_sem, k0, k1]) rfl ⟨Av, cv, rfl, hXB⟩

/-- A code with these letters, and no error. -/
def OkN (f : Int) (n : Nat) (L : List Lt) (w : World) (e : Ending) (w' : World) : Prop :=
  ∃ Av cv, e = .returned (.tuple #[.agg #[.int .i64 f, .slice Av n cv], .int .i64 0]) ∧ (0 < n → w'.ownsRow w.heap.size 48 6 (.slice Av n cv) n (L.flatMap ltCells)) ∧ Below w.heap.size w w'
theorem OkN.ls {w' : World} {B n cv : Nat} {Av : Option Addr} {L : List Lt} (h : 0 < n → w'.ownsRow B 48 6 (.slice Av n cv) n (L.flatMap ltCells)) (hn : L.length = n) : LS w' Av n L := by
  rcases Nat.eq_zero_or_pos n with e | e
  · subst e
    have : L = [] := List.eq_nil_of_length_eq_zero hn
    subst this
    exact ⟨rfl, fun h => absurd h (by omega)⟩
  · rcases (h e).2 with ⟨hv, h0⟩ | ⟨g, cap, cur, hv, _⟩
    · omega
    · injection hv with e1 _ e3
      subst e1
      subst e3
      exact OwnL.lsN (B := B) (by unfold OwnL; rw [hn]; exact h e) hn

theorem renamed_ok (f : Int) (A : Option Addr) (n c : Nat) (ls : List Lt) (w : World) (hL : LS w A n ls) (hz : A = none → c = 0) (hsp : ∀ a, A = some a → a.spot = none) (hn : n ≤ 1000) (hid : ∀ l, l ∈ ls → l.kind = 2 → 0 ≤ l.id ∧ l.id ≤ cntK 2 ls / 2) :
    Calls Tryd.prog 66 #[.agg #[.int .i64 f, .slice A n c]] w fun e w' => ∃ Av cv, e = .returned (.agg #[.int .i64 f, .slice Av n cv]) ∧ (0 < n → w'.ownsRow w.heap.size 48 6 (.slice Av n cv) n ((renL ls).flatMap ltCells)) ∧ Below w.heap.size w w' := by
  rcases Nat.eq_zero_or_pos n with e | e
  · subst e
    refine (renamed_zero f A c w hz hsp).mono ?_
    rintro e w' ⟨Av, cv, rfl, hb⟩
    exact ⟨Av, cv, rfl, fun h => absurd h (by omega), hb⟩
  · obtain ⟨b, off, hA, _⟩ := hL.2 e
    subst hA
    refine (renamed_calls f b off n c ls w hL hn e hid).mono ?_
    rintro e w' ⟨gL, cp, rfl, ho, hb⟩
    unfold OwnL at ho
    have hl : (renL ls).length = n := by rw [← hL.1]; exact (rnM_inv ls _ _ (Nat.le_refl _)).2.2.1
    rw [hl] at ho
    exact ⟨_, cp, rfl, fun _ => ho, hb⟩

set_option maxHeartbeats 4000000 in
theorem rename_calls (f : Int) (A : Option Addr) (n c : Nat) (L : List Lt) (w : World) (hC : ChkAt f A n c 0 w)
    (hR : ∀ W, Below w.heap.size w W → Calls Tryd.prog 66 #[.agg #[.int .i64 f, .slice A n c]] W fun e w' => ∃ Av cv, e = .returned (.agg #[.int .i64 f, .slice Av n cv]) ∧ (0 < n → w'.ownsRow W.heap.size 48 6 (.slice Av n cv) n (L.flatMap ltCells)) ∧ Below W.heap.size W w') :
    Calls Tryd.prog 23 #[.agg #[.int .i64 f, .slice A n c]] w (OkN f n L w) := by
  have HCK := Lib.hid hC
  have HR := Lib.hid hR
  clear hC hR
  go_enter Tryd.func23, Tryd.ntmps23
  go_wp2_with fail
  obtain ⟨W0, hW0⟩ : ∃ W0, W0 = (w.alloc (.cells #[.int .i64 f, .slice A n c] 24)).alloc (.cells #[.int .i64 0, .slice none 0 0] 24) := ⟨_, rfl⟩
  have HF0 := Lib.hid (two_mem w (.cells #[.int .i64 f, .slice A n c] 24) (.cells #[.int .i64 0, .slice none 0 0] 24) W0 hW0)
  rw [← hW0]
  clear hW0
  refine (HCK.out _ HF0.out.2.2.2).mono ?_
  rintro e w1 ⟨rfl, hb1⟩
  have HM1 := Lib.hid (two_next HF0.out hb1)
  have a0 := Lib.cell_of_heap HM1.out.1 0
  have a1 := Lib.cell_of_heap HM1.out.1 1
  clear hb1
  go_wp2_with fail
  refine (HR.out _ HM1.out.2.2.2).mono ?_
  rintro e w2 ⟨Av, cv, rfl, ho, hb2⟩
  have HM2 := Lib.hid (two_next HM1.out hb2)
  have HO := Lib.hid ho
  have r0 := Lib.cell_of_heap HM2.out.2.1 0
  have r1 := Lib.cell_of_heap HM2.out.2.1 1
  have rf : ∀ x, w2.frozen? ⟨w.heap.size + 1, x, none⟩ = false := by intro x; have h1 := HM2.out.2.1; simp [World.frozen?, h1]
  clear hb2 ho a0 a1
  go_wp2_with fail
  obtain ⟨X, hX⟩ : ∃ X, X = (w2.setCell ⟨w.heap.size + 1, 0, none⟩ (.int .i64 f)).setCell ⟨w.heap.size + 1, 1, none⟩ (.slice Av n cv) := ⟨_, rfl⟩
  obtain ⟨k0, k1, hXB, _, hXK⟩ := res_end HM2.out.2.1 (by omega) HM2.out.2.2.2 _ _ hX
  rw [← hX]
  refine bodyPost_ret (v := .tuple #[.agg #[.int .i64 f, .slice Av n cv], .int .i64 0]) (by simp [results, Tryd.results23, go_sem, k0, k1]) rfl ⟨Av, cv, rfl, fun h => ?_, hXB⟩
  have h1 := own_kept2' (HO.out h) (w' := X) (fun g e => hXK g (by have := (World.ownsRow.lt (HO.out h) g e).1; have := HM1.out.2.2.1; omega))
  exact own_base' h1 HM1.out.2.2.2.size

end Go.Proofs.YtjdabkniojmacaaDoor

/-
  The least of the renamed codes that begin with a pass: the one that begins with the leftmost pass (pure).
-/
namespace Go.Proofs.YtjdabkniojmacaaDoor
open Go.RowKit

theorem downB_zero (ls : List Lt) : downB ls 0 = true := by simp [downB, cntB]
theorem downB_succ {ls : List Lt} {j : Nat} {l : Lt} (h : ls[j]? = some l) : downB ls (j + 1) = (downB ls j != isPass l) := by
  have h1 := cntB_succ (p := isPass) h
  have h2 := cntB_nonneg isPass (ls.take j)
  unfold downB
  rw [h1]
  cases hp : isPass l
  · simp
  · by_cases e : cntB isPass (ls.take j) % 2 = 0
    · have : ¬ (cntB isPass (ls.take j) + 1) % 2 = 0 := by omega
      simp [e, this]
    · have : (cntB isPass (ls.take j) + 1) % 2 = 0 := by omega
      simp [e, this]
theorem downB_len {ls : List Lt} (hev : cntB isPass ls % 2 = 0) : downB ls ls.length = true := by
  unfold downB
  rw [List.take_length, hev]
  rfl
/-- Where one begins at a pass that goes down, the directions stay. -/
theorem downB_follow {ls : List Lt} {R : Nat} (hev : cntB isPass ls % 2 = 0) (hR : R < ls.length) (hd : downB ls R = true) : ∀ i, i < ls.length → downB (followL ls (R : Int) 1) i = downB ls (stepM ls.length (R : Int) 1 i)
  | 0, _ => by rw [downB_zero, stepM_pos hR (by omega), if_pos (by omega), Nat.add_zero, hd]
  | i + 1, hi => by
    have ih := downB_follow hev hR hd i (by omega)
    have hq := stepM_lt (n := ls.length) (by omega) (R : Int) 1 i
    obtain ⟨l, hl⟩ : ∃ l, ls[stepM ls.length (R : Int) 1 i]? = some l := ⟨_, List.getElem?_eq_getElem hq⟩
    have hx := followL_at (first := (R : Int)) (step := 1) (show i < ls.length by omega) hl
    rw [downB_succ hx, ih, ← downB_succ hl]
    by_cases hw : stepM ls.length (R : Int) 1 i + 1 < ls.length
    · congr 1
      rw [stepM_pos hR (by omega)] at hw ⊢
      rw [stepM_pos hR hi]
      split at hw <;> split <;> split <;> omega
    · have e1 : stepM ls.length (R : Int) 1 i + 1 = ls.length := by omega
      have e2 : stepM ls.length (R : Int) 1 (i + 1) = 0 := by
        rw [stepM_pos hR (by omega)] at e1
        rw [stepM_pos hR hi]
        split at e1 <;> split <;> omega
      rw [e1, e2, downB_len hev, downB_zero]
/-- .. at a pass that goes up, backwards: the direction is that behind the letter. -/
theorem downB_back {ls : List Lt} {R : Nat} (hev : cntB isPass ls % 2 = 0) (hR : R < ls.length) (hd : downB ls (R + 1) = true) : ∀ i, i < ls.length → downB (followL ls (R : Int) (-1)) i = downB ls (stepM ls.length (R : Int) (-1) i + 1)
  | 0, _ => by rw [downB_zero, stepM_neg hR (by omega), if_pos (by omega), Nat.sub_zero, hd]
  | i + 1, hi => by
    have ih := downB_back hev hR hd i (by omega)
    have hq := stepM_lt (n := ls.length) (by omega) (R : Int) (-1) i
    obtain ⟨l, hl⟩ : ∃ l, ls[stepM ls.length (R : Int) (-1) i]? = some l := ⟨_, List.getElem?_eq_getElem hq⟩
    have hx := followL_at (first := (R : Int)) (step := -1) (show i < ls.length by omega) hl
    have hb : ∀ a b : Bool, ((a != b) != b) = a := by decide
    rw [downB_succ hx, ih, downB_succ hl, hb]
    by_cases hw : 0 < stepM ls.length (R : Int) (-1) i
    · congr 1
      rw [stepM_neg hR (by omega)] at hw ⊢
      rw [stepM_neg hR hi]
      split at hw <;> split <;> (try split) <;> omega
    · have e1 : stepM ls.length (R : Int) (-1) i = 0 := by omega
      have e2 : stepM ls.length (R : Int) (-1) (i + 1) + 1 = ls.length := by
        rw [stepM_neg hR (by omega)] at e1
        rw [stepM_neg hR hi]
        split at e1 <;> split <;> omega
      rw [e1, e2, downB_len hev, downB_zero]
theorem follow_back {ls : List Lt} {R i : Nat} (hR : R < ls.length) (hi : i < ls.length) : followL (followL ls (R : Int) (-1)) (i : Int) 1 = followL ls ((stepM ls.length (R : Int) (-1) i : Nat) : Int) (-1) := by
  have hq := stepM_lt (n := ls.length) (by omega) (R : Int) (-1) i
  apply List.ext_getElem?
  intro j
  by_cases hj : j < ls.length
  · have hs := stepM_lt (n := ls.length) (by omega) (i : Int) 1 j
    rw [followL_get (by rw [followL_len]; exact hj), followL_len, followL_get hs, followL_get hj]
    congr 1
    rw [stepM_neg hR hs, stepM_neg hq hj, stepM_neg hR hi, stepM_pos hi hj]
    split <;> split <;> split <;> (try split) <;> omega
  · rw [List.getElem?_eq_none (by simp only [followL_len]; omega), List.getElem?_eq_none (by rw [followL_len]; omega)]
theorem followL_zero (ls : List Lt) : followL ls ((0 : Nat) : Int) 1 = ls := by
  by_cases h0 : 0 < ls.length
  · apply List.ext_getElem?
    intro j
    by_cases hj : j < ls.length
    · rw [followL_get hj, stepM_pos h0 hj, if_pos (by omega), Nat.zero_add]
    · rw [List.getElem?_eq_none (by rw [followL_len]; omega), List.getElem?_eq_none (by omega)]
  · have e : ls = [] := List.eq_nil_of_length_eq_zero (by omega)
    subst e
    rfl
/-- The first letter of a renamed list: a pass stays what it is. -/
theorem renL_pass {ls : List Lt} {i : Nat} {l : Lt} (hl : ls[i]? = some l) (hk : l.kind ≠ 2) : (renL ls)[i]? = some l := by
  have key : ∀ K j, j ≤ ls.length → (rnM ls K j).out[i]? = some l := by
    intro K j
    induction j with
    | zero => intro _; exact hl
    | succ j ih =>
      intro hj
      have h1 := ih (by omega)
      rw [rnM]
      cases hx : ls[j]? with
      | none => exact h1
      | some x =>
        show (rnStep (rnM ls K j) j x).out[i]? = some l
        unfold rnStep
        split
        · rename_i hk2
          have hne : j ≠ i := by intro e; subst e; rw [hl] at hx; injection hx with hx; subst hx; exact hk hk2
          split
          · show (List.set _ _ _)[i]? = _; rw [List.getElem?_set_ne hne]; exact h1
          · show (List.set _ _ _)[i]? = _; rw [List.getElem?_set_ne hne]; exact h1
        · exact h1
  exact key _ _ (Nat.le_refl _)
theorem renL_len (ls : List Lt) : (renL ls).length = ls.length := (rnM_inv ls _ _ (Nat.le_refl _)).2.2.1
/-- Where the letter lies from which the reference goes on: in the code itself (k = 0), or in the one that is traveled backwards. -/
def ixM (n R k i : Nat) : Nat := if k = 0 then i else stepM n (R : Int) (-1) i
def LeP (a b : Lt) : Prop := a.gate < b.gate ∨ a.gate = b.gate ∧ a.rank ≤ b.rank
/-- The renamed code that begins with a pass, in the direction in which that goes down. -/
def candL (ls : List Lt) (q : Nat) : List Lt := renL (followL ls (q : Int) (if downB ls q = true then 1 else -1))
/-- The least code so far. -/
def BestQ (ls : List Lt) (R k i : Nat) (bL : List Lt) : Prop :=
  ∃ q l, ls[q]? = some l ∧ l.kind = 1 ∧ bL = candL ls q ∧ ∀ k' i' l', (k' < k ∨ k' = k ∧ i' < i) → k' < 2 → i' < ls.length → ls[ixM ls.length R k' i']? = some l' → l'.kind = 1 → downB ls (ixM ls.length R k' i') = decide (k' = 0) → LeP l l'
theorem ixM_lt {n R k i : Nat} (h : i < n) : ixM n R k i < n := by
  unfold ixM
  split
  · exact h
  · exact stepM_lt (by omega) _ _ _
theorem best_zero {ls : List Lt} {R : Nat} {l : Lt} (h0 : ls[0]? = some l) (hk : l.kind = 1) : BestQ ls R 0 0 (renL ls) := by
  refine ⟨0, l, h0, hk, ?_, fun k' i' l' h => by omega⟩
  unfold candL
  rw [downB_zero, if_pos rfl, followL_zero]
theorem best_next {ls bL : List Lt} {R k : Nat} (h : BestQ ls R k ls.length bL) : BestQ ls R (k + 1) 0 bL := by
  obtain ⟨q, l, h1, h2, h3, h4⟩ := h
  refine ⟨q, l, h1, h2, h3, fun k' i' l' hk hk2 hi => h4 k' i' l' (by omega) hk2 hi⟩
theorem best_skip {ls bL : List Lt} {R k i : Nat} (h : BestQ ls R k i bL) (hno : ∀ l', ls[ixM ls.length R k i]? = some l' → l'.kind = 1 → downB ls (ixM ls.length R k i) ≠ decide (k = 0)) : BestQ ls R k (i + 1) bL := by
  obtain ⟨q, l, h1, h2, h3, h4⟩ := h
  refine ⟨q, l, h1, h2, h3, fun k' i' l' hk hk2 hi hl hp hd => ?_⟩
  by_cases e : k' = k ∧ i' = i
  · obtain ⟨rfl, rfl⟩ := e
    exact absurd hd (hno l' hl hp)
  · exact h4 k' i' l' (by omega) hk2 hi hl hp hd
theorem best_keep {ls bL : List Lt} {R k i : Nat} {lb lc : Lt} (h : BestQ ls R k i bL) (hb : bL[0]? = some lb) (hc : ls[ixM ls.length R k i]? = some lc) (hge : LeP lb lc) : BestQ ls R k (i + 1) bL := by
  obtain ⟨q, l, h1, h2, h3, h4⟩ := h
  have hq : q < ls.length := lt_len h1
  have hl : l = lb := by
    rw [h3] at hb
    unfold candL at hb
    have h5 : (followL ls (q : Int) (if downB ls q = true then 1 else -1))[0]? = some l := by
      rw [followL_get (by omega)]
      split
      · rw [stepM_pos hq (by omega), if_pos (by omega)]; exact h1
      · rw [stepM_neg hq (by omega), if_pos (by omega)]; exact h1
    rw [renL_pass h5 (by omega)] at hb
    injection hb
  subst hl
  refine ⟨q, l, h1, h2, h3, fun k' i' l' hk hk2 hi hl hp hd => ?_⟩
  by_cases e : k' = k ∧ i' = i
  · obtain ⟨rfl, rfl⟩ := e
    rw [hc] at hl
    injection hl with hl
    subst hl
    exact hge
  · exact h4 k' i' l' (by omega) hk2 hi hl hp hd
theorem best_first {ls bL : List Lt} {R k i : Nat} (h : BestQ ls R k i bL) : ∃ q l, ls[q]? = some l ∧ l.kind = 1 ∧ bL = candL ls q ∧ bL[0]? = some l := by
  obtain ⟨q, l, h1, h2, h3, h4⟩ := h
  have hq : q < ls.length := lt_len h1
  refine ⟨q, l, h1, h2, h3, ?_⟩
  rw [h3]
  unfold candL
  have h5 : (followL ls (q : Int) (if downB ls q = true then 1 else -1))[0]? = some l := by
    rw [followL_get (by omega)]
    split
    · rw [stepM_pos hq (by omega), if_pos (by omega)]; exact h1
    · rw [stepM_neg hq (by omega), if_pos (by omega)]; exact h1
  exact renL_pass h5 (by omega)
theorem best_take {ls bL : List Lt} {R k i : Nat} {lb lc : Lt} (h : BestQ ls R k i bL) (hb : bL[0]? = some lb) (hc : ls[ixM ls.length R k i]? = some lc) (kc : lc.kind = 1) (hlt : lc.gate < lb.gate ∨ lc.gate = lb.gate ∧ lc.rank < lb.rank) : BestQ ls R k (i + 1) (candL ls (ixM ls.length R k i)) := by
  obtain ⟨q, l, h1, h2, h3, h5⟩ := best_first h
  rw [hb] at h5
  injection h5 with h5
  subst h5
  obtain ⟨q', l', g1, g2, g3, g4⟩ := h
  have hll : l' = lb := by
    have hq : q' < ls.length := lt_len g1
    have h6 : (followL ls (q' : Int) (if downB ls q' = true then 1 else -1))[0]? = some l' := by
      rw [followL_get (by omega)]
      split
      · rw [stepM_pos hq (by omega), if_pos (by omega)]; exact g1
      · rw [stepM_neg hq (by omega), if_pos (by omega)]; exact g1
    rw [g3] at hb
    unfold candL at hb
    rw [renL_pass h6 (by omega)] at hb
    injection hb
  subst hll
  refine ⟨_, lc, hc, kc, rfl, fun k' i' l2 hk hk2 hi hl hp hd => ?_⟩
  by_cases e : k' = k ∧ i' = i
  · obtain ⟨rfl, rfl⟩ := e
    rw [hc] at hl
    injection hl with hl
    subst hl
    exact .inr ⟨rfl, Int.le_refl _⟩
  · have := g4 k' i' l2 (by omega) hk2 hi hl hp hd
    unfold LeP at this ⊢
    omega
/-- At the end it is the code that begins with the leftmost pass. -/
theorem best_end {ls bL : List Lt} {R a : Nat} {la : Lt} (hR : R < ls.length) (h : BestQ ls R 2 0 bL) (ha : ls[a]? = some la) (ka : la.kind = 1) (hleast : ∀ q l, ls[q]? = some l → l.kind = 1 → q = a ∨ (la.gate < l.gate ∨ la.gate = l.gate ∧ la.rank < l.rank)) : bL = candL ls a := by
  obtain ⟨q, l, h1, h2, h3, h4⟩ := h
  have hal := lt_len ha
  have hle : LeP l la := by
    cases hd : downB ls a with
    | true => exact h4 0 a la (by omega) (by omega) hal (by unfold ixM; rw [if_pos rfl]; exact ha) ka (by unfold ixM; rw [if_pos rfl]; exact hd)
    | false =>
      have hi : ∃ i, i < ls.length ∧ stepM ls.length (R : Int) (-1) i = a := by
        by_cases c : a ≤ R
        · exact ⟨R - a, by omega, by rw [stepM_neg hR (by omega), if_pos (by omega)]; omega⟩
        · exact ⟨R + ls.length - a, by omega, by rw [stepM_neg hR (by omega), if_neg (by omega)]; omega⟩
      obtain ⟨i, hi, e⟩ := hi
      exact h4 1 i la (by omega) (by omega) hi (by unfold ixM; rw [if_neg (by omega), e]; exact ha) ka (by unfold ixM; rw [if_neg (by omega), e]; exact hd)
  rcases hleast q l h1 h2 with e | e
  · rw [h3, e]
  · unfold LeP at hle
    omega
/-- The leftmost pass. -/
theorem ax_least {f : Int} {ls : List Lt} {st : OrdS} {pt : PairS} (g : (dmOf f ls st pt).good) (hm : 0 < numP f ls) : ∃ la, ls[st.ax.getD 0 0]? = some la ∧ la.kind = 1 ∧ ∀ q l, ls[q]? = some l → l.kind = 1 → q = st.ax.getD 0 0 ∨ (la.gate < l.gate ∨ la.gate = l.gate ∧ la.rank < l.rank) := by
  obtain ⟨la, h1, h2, h3⟩ := g.axp 0 hm
  refine ⟨la, h1, h2, fun q l hl hk => ?_⟩
  obtain ⟨s1, s2⟩ := g.spa q l hl hk
  rcases Nat.eq_zero_or_pos ((dmOf f ls st pt).sp.getD q 0) with e | e
  · left
    rw [e] at s2
    exact s2.symm
  · right
    refine (g.lft _ q la l h1 hl h2 hk).2 ?_
    show st.sp.getD (st.ax.getD 0 0) 0 < st.sp.getD q 0
    have h3' : st.sp.getD (st.ax.getD 0 0) 0 = 0 := h3
    rw [h3']
    exact e

end Go.Proofs.YtjdabkniojmacaaDoor

/-
  Normal of any valid code, the program's and the reference's.
-/
namespace Go.Proofs.YtjdabkniojmacaaDoor
open Go.RowKit

set_option maxHeartbeats 4000000 in
theorem normal_zero (f : Int) (A : Option Addr) (c : Nat) (w : World) (hA : ∀ b off, A = some ⟨b, off, none⟩ → b < w.heap.size) (hv : checkE f [] = 0) :
    Calls Tryd.prog 22 #[.agg #[.int .i64 f, .slice A 0 c]] w (OkN f 0 [] w) := by
  have HDR : Hid (∀ W, Below w.heap.size w W → Calls Tryd.prog 58 #[.agg #[.int .i64 f, .slice A 0 c]] W fun e w' => ∃ P, e = .returned (.tuple #[.pointer (some ⟨P, 0, none⟩), .int .i64 0]) ∧ Below W.heap.size W w') := by
    intro W hW
    refine (draw_calls f A 0 c [] W ⟨rfl, fun h => absurd h (by omega)⟩ (fun b off e => Nat.lt_of_lt_of_le (hA b off e) hW.size) (fun l hl => by cases hl)).mono ?_
    rintro e w' ⟨hb, ⟨hne, _⟩ | ⟨P, _, _, _, rfl, _⟩⟩
    · exact absurd hv hne
    · exact ⟨P, rfl, hb⟩
  clear hA hv
  go_enter Tryd.func22, Tryd.ntmps22
  go_wp2_with fail
  obtain ⟨W0, hW0⟩ : ∃ W0, W0 = (w.alloc (.cells #[.int .i64 f, .slice A 0 c] 24)).alloc (.cells #[.int .i64 0, .slice none 0 0] 24) := ⟨_, rfl⟩
  have HF0 := Lib.hid (two_mem w _ _ W0 hW0)
  rw [← hW0]
  clear hW0
  refine (HDR.out _ HF0.out.2.2.2).mono ?_
  rintro e w1 ⟨P, rfl, hb1⟩
  have HM1 := Lib.hid (two_next HF0.out hb1)
  have a0 := Lib.cell_of_heap HM1.out.1 0
  have a1 := Lib.cell_of_heap HM1.out.1 1
  have r0 := Lib.cell_of_heap HM1.out.2.1 0
  have r1 := Lib.cell_of_heap HM1.out.2.1 1
  have rf : ∀ x, w1.frozen? ⟨w.heap.size + 1, x, none⟩ = false := by intro x; have h1 := HM1.out.2.1; simp [World.frozen?, h1]
  clear hb1
  go_wp2_with fail
  obtain ⟨X, hX⟩ : ∃ X, X = (w1.setCell ⟨w.heap.size + 1, 0, none⟩ (.int .i64 f)).setCell ⟨w.heap.size + 1, 1, none⟩ (.slice none 0 0) := ⟨_, rfl⟩
  obtain ⟨k0, k1, hXB, _, _⟩ := res_end HM1.out.2.1 (by omega) HM1.out.2.2.2 _ _ hX
  rw [← hX]
  exact bodyPost_ret (v := .tuple #[.agg #[.int .i64 f, .slice none 0 0], .int .i64 0]) (by simp [results, Tryd.results22, go_sem, k0, k1]) rfl ⟨none, 0, rfl, fun h => absurd h (by omega), hXB⟩

/-- The normal form of a valid code. -/
def normL (f : Int) (ls : List Lt) : List Lt :=
  match ordM ls (numP f ls) ls.length ls.length with
  | some st => if ls.length = 0 then [] else candL ls (st.ax.getD 0 0)
  | none => []
theorem normL_of {f : Int} {ls : List Lt} {st : OrdS} (h : ordM ls (numP f ls) ls.length ls.length = some st) (h0 : 0 < ls.length) : normL f ls = candL ls (st.ax.getD 0 0) := by
  unfold normL
  rw [h]
  dsimp only
  rw [if_neg (by omega)]
theorem normL_nil (f : Int) : normL f [] = [] := by
  unfold normL
  split
  · rfl
  · rfl

theorem closed_first' {ls : List Lt} (h : closedB ls = true) (h0 : 0 < ls.length) : ∃ l, ls[0]? = some l ∧ l.kind = 1 ∧ cntB isPass ls % 2 = 0 := by
  cases ls with
  | nil => simp at h0
  | cons a r =>
    unfold closedB at h
    simp [isPass] at h
    exact ⟨a, rfl, h.1, by simpa [isPass] using h.2⟩
/-- What a valid code keeps to, as one. -/
structure ValidC (f : Int) (ls : List Lt) (st : OrdS) (pt : PairS) : Prop where
  len : ls.length ≤ 400
  fin : 0 ≤ f ∧ f ≤ 40
  closed : closedB ls = true
  plain : ∀ l, l ∈ ls → plainL f l
  ord : ordM ls (numP f ls) ls.length ls.length = some st
  pair : pairM ls (cntK 2 ls / 2) ls.length ls.length = some pt
theorem valid_parts {f : Int} {ls : List Lt} (h : checkE f ls = 0) : ∃ st pt, ValidC f ls st pt := by
  obtain ⟨h1, h2, h3, h4, st, pt, ho, hq, _⟩ := checkE_all h
  exact ⟨st, pt, (checkE_zero h).1, h2, h3, h4, ho, hq⟩
theorem ValidC.good {f : Int} {ls : List Lt} {st : OrdS} {pt : PairS} (h : checkE f ls = 0) (V : ValidC f ls st pt) (h0 : 0 < ls.length) : (dmOf f ls st pt).good := by
  obtain ⟨h1, _⟩ := checkE_all h
  exact dmOf_good h1 V.fin V.closed V.plain h0 V.ord V.pair

theorem ValidC.ids {f : Int} {ls : List Lt} {st : OrdS} {pt : PairS} (V : ValidC f ls st pt) : ∀ (q : Nat) (step : Int), q < ls.length → (step = 1 ∨ step = -1) → ∀ l, l ∈ followL ls (q : Int) step → l.kind = 2 → 0 ≤ l.id ∧ l.id ≤ cntK 2 (followL ls (q : Int) step) / 2 := by
  intro q step hq hs l hl hk
  have h1 := pair_fine V.pair l ((follow_mem hq hs).1 hl) hk
  rw [cntK_cntB, cntB_follow hq hs, ← cntK_cntB]
  omega
theorem ValidC.ids0 {f : Int} {ls : List Lt} {st : OrdS} {pt : PairS} (V : ValidC f ls st pt) : ∀ l, l ∈ ls → l.kind = 2 → 0 ≤ l.id ∧ l.id ≤ cntK 2 ls / 2 := by
  intro l hl hk
  have h1 := pair_fine V.pair l hl hk
  omega

/-- Normal of a valid code. -/
theorem normal_ok (f : Int) (A : Option Addr) (n c : Nat) (ls : List Lt) (w : World) (hL : LS w A n ls) (hA : ∀ b off, A = some ⟨b, off, none⟩ → b < w.heap.size) (hI : ∀ l, l ∈ ls → I64 l.id) (hv : checkE f ls = 0) :
    Calls Tryd.prog 22 #[.agg #[.int .i64 f, .slice A n c]] w (OkN f n (normL f ls) w) := by
  have hl := hL.1
  rcases Nat.eq_zero_or_pos n with e | e
  · subst e
    obtain rfl : ls = [] := List.eq_nil_of_length_eq_zero hl
    rw [normL_nil]
    exact normal_zero f A c w hA hv
  · obtain ⟨st, pt, V⟩ := valid_parts hv
    have g := V.good hv (by omega)
    refine (normal_calls f A n c ls w hL hA hI hv e V.ids).mono ?_
    rintro e1 w' ⟨st', pt', gL, cp, ho, _, rfl, hrow, hb⟩
    have hst : st' = st := by
      have := V.ord
      rw [hl, ho] at this
      injection this
    subst hst
    refine ⟨_, cp, rfl, fun _ => ?_, hb⟩
    have hm0 : 0 < numP f ls := by
      obtain ⟨l, hl0, hk0, _⟩ := closed_first' V.closed (by omega)
      exact Nat.lt_of_le_of_lt (Nat.zero_le _) (g.spa 0 l hl0 hk0).1
    obtain ⟨la, hla, hka, _⟩ := ax_least g hm0
    rw [normL_of V.ord (by omega)]
    rw [above_down hla hka] at hrow
    have e2 : renL (followL ls ((st'.ax.getD 0 0 : Nat) : Int) (if (!downB ls (st'.ax.getD 0 0)) = true then -1 else 1)) = candL ls (st'.ax.getD 0 0) := by
      unfold candL
      cases downB ls (st'.ax.getD 0 0) <;> rfl
    rw [e2] at hrow
    have hln : (candL ls (st'.ax.getD 0 0)).length = n := by unfold candL; rw [renL_len, followL_len]; exact hl
    unfold OwnL at hrow
    rw [hln] at hrow
    exact hrow

theorem lt_of_some {α : Type} {l : List α} {i : Nat} {x : α} (h : l[i]? = some x) : i < l.length := by
  rcases Nat.lt_or_ge i l.length with c | c
  · exact c
  · rw [List.getElem?_eq_none c] at h; cases h
/-- The names given so far are the list of the IDs met so far. -/
def RnInv (met : List Int) (S : RnS) (K : Nat) : Prop :=
  S.nm.length = K ∧ S.last = met.length ∧ (∀ (k : Nat) v, met[k]? = some v → 0 ≤ v ∧ v.toNat < K ∧ S.nm[v.toNat]? = some (k + 1)) ∧ ∀ (i x : Nat), S.nm[i]? = some x → x ≠ 0 → met[x - 1]? = some (i : Int)
theorem rnInv_zero (ls : List Lt) (K : Nat) : RnInv [] (rnM ls K 0) K := by
  refine ⟨by simp [rnM], rfl, fun k v h => by simp at h, fun i x h hx => ?_⟩
  simp only [rnM, List.getElem?_replicate] at h
  split at h
  · injection h with h; exact absurd h.symm hx
  · cases h
theorem getD_some' {α : Type} {l : List α} {i : Nat} {x z : α} (h : l[i]? = some x) : l.getD i z = x := by
  rw [List.getD_eq_getElem?_getD, h]; rfl
theorem rn_known {met : List Int} {S : RnS} {K j k : Nat} {l : Lt} (h : RnInv met S K) (hk : l.kind = 2) (hm : met[k]? = some l.id) :
    rnStep S j l = ⟨S.nm, S.last, S.out.set j ⟨l.kind, l.gate, l.rank, (k : Int) + 1, l.sign, l.over⟩⟩ ∧ RnInv met (rnStep S j l) K := by
  obtain ⟨h1, h2, h3, h4⟩ := h
  have h5 := getD_some' (z := 0) (h3 k _ hm).2.2
  have e : rnStep S j l = ⟨S.nm, S.last, S.out.set j ⟨l.kind, l.gate, l.rank, (k : Int) + 1, l.sign, l.over⟩⟩ := by
    unfold rnStep
    rw [if_pos hk, h5, if_neg (by omega)]
    rfl
  exact ⟨e, by rw [e]; exact ⟨h1, h2, h3, h4⟩⟩
theorem rn_new {met : List Int} {S : RnS} {K j : Nat} {l : Lt} (h : RnInv met S K) (hk : l.kind = 2) (hid : 0 ≤ l.id ∧ l.id.toNat < K) (hm : ∀ k : Nat, met[k]? ≠ some l.id) :
    rnStep S j l = ⟨S.nm.set l.id.toNat (S.last + 1), S.last + 1, S.out.set j ⟨l.kind, l.gate, l.rank, (met.length : Int) + 1, l.sign, l.over⟩⟩ ∧ RnInv (met ++ [l.id]) (rnStep S j l) K ∧ ∀ k : Nat, (met ++ [l.id])[k]? = some l.id → k = met.length := by
  obtain ⟨h1, h2, h3, h4⟩ := h
  have hlt : l.id.toNat < S.nm.length := by omega
  have h6 : S.nm[l.id.toNat]? = some (S.nm[l.id.toNat]) := List.getElem?_eq_getElem hlt
  have h7 : S.nm[l.id.toNat] = 0 := by
    rcases Nat.eq_zero_or_pos (S.nm[l.id.toNat]) with c | c
    · exact c
    · have := h4 _ _ h6 (by omega)
      rw [show ((l.id.toNat : Nat) : Int) = l.id by omega] at this
      exact absurd this (hm _)
  rw [h7] at h6
  have h5 := getD_some' (z := 0) h6
  have e : rnStep S j l = ⟨S.nm.set l.id.toNat (S.last + 1), S.last + 1, S.out.set j ⟨l.kind, l.gate, l.rank, (met.length : Int) + 1, l.sign, l.over⟩⟩ := by
    unfold rnStep
    rw [if_pos hk, h5, if_pos rfl, h2]
    rfl
  refine ⟨e, ?_, fun k hk' => ?_⟩
  · rw [e]
    refine ⟨by simpa using h1, by simp; omega, fun k v hv => ?_, fun i x hx hx0 => ?_⟩
    · by_cases hkl : k < met.length
      · rw [List.getElem?_append_left hkl] at hv
        obtain ⟨a, b, c⟩ := h3 k v hv
        refine ⟨a, b, ?_⟩
        show (S.nm.set _ _)[_]? = _
        rw [List.getElem?_set_ne (fun q => hm k (by rw [hv]; congr 1; omega))]
        exact c
      · rw [List.getElem?_append_right (by omega)] at hv
        have hk0 : k = met.length := by
          rcases Nat.lt_or_ge (k - met.length) 1 with q | q
          · omega
          · rw [List.getElem?_eq_none (by simp; omega)] at hv; cases hv
        subst hk0
        rw [Nat.sub_self] at hv
        injection hv with hv
        subst hv
        refine ⟨hid.1, hid.2, ?_⟩
        show (S.nm.set _ _)[_]? = _
        rw [List.getElem?_set_self hlt, h2]
    · by_cases hi : l.id.toNat = i
      · subst hi
        change (S.nm.set _ _)[_]? = _ at hx
        rw [List.getElem?_set_self hlt] at hx
        injection hx with hx
        rw [← hx, Nat.add_sub_cancel, h2, List.getElem?_append_right (Nat.le_refl _), Nat.sub_self]
        show some l.id = _
        congr 1
        omega
      · change (S.nm.set _ _)[_]? = _ at hx
        rw [List.getElem?_set_ne hi] at hx
        have := h4 i x hx hx0
        rw [List.getElem?_append_left (lt_of_some this)]
        exact this
  · by_cases hkl : k < met.length
    · rw [List.getElem?_append_left hkl] at hk'
      exact absurd hk' (hm k)
    · rcases Nat.lt_or_ge (k - met.length) 1 with q | q
      · omega
      · rw [List.getElem?_append_right (by omega), List.getElem?_eq_none (by simp; omega)] at hk'; cases hk'


end Go.Proofs.YtjdabkniojmacaaDoor
