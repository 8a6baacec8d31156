/-
  The walks of slices.Clone of letters and of renamed.
-/
import Derived.Test.YtjdabkniojmacaaDoorFollow
namespace Go.Proofs.YtjdabkniojmacaaDoor
open Go.RowKit

theorem LS.flat {w : World} {b off n : Nat} {ls : List Lt} (h : LS w (some ⟨b, off, none⟩) n ls) {j : Nat} {u : Value} (hu : (ls.flatMap ltCells)[j]? = some u) : w.cell? ⟨b, off + j, none⟩ = some u := by
  have hjl : j < ls.length * 6 := by
    rcases Nat.lt_or_ge j (ls.flatMap ltCells).length with q | q
    · rw [letters_len] at q; exact q
    · rw [List.getElem?_eq_none q] at hu; cases hu
  have hn := h.1
  obtain ⟨b', off', l, hA, _, hl, c0, c1, c2, c3, c4, c5⟩ := h.at_ (k := j / 6) (by omega)
  injection hA with hA
  injection hA with e1 e2
  subst e1; subst e2
  have hi : j = j / 6 * 6 + j % 6 := by omega
  have hx : ∀ i x, i = j % 6 → (ltCells l)[i]? = some x → u = x := by
    intro i x hi' hx
    have := letters_at hl i x hx
    rw [hi', ← hi, hu] at this
    injection this
  have h6 : j % 6 = 0 ∨ j % 6 = 1 ∨ j % 6 = 2 ∨ j % 6 = 3 ∨ j % 6 = 4 ∨ j % 6 = 5 := by omega
  rcases h6 with q | q | q | q | q | q
  · rw [hx 0 _ q.symm rfl, show off + j = off + j / 6 * 6 by omega]; exact c0
  · rw [hx 1 _ q.symm rfl, show off + j = off + j / 6 * 6 + 1 by omega]; exact c1
  · rw [hx 2 _ q.symm rfl, show off + j = off + j / 6 * 6 + 2 by omega]; exact c2
  · rw [hx 3 _ q.symm rfl, show off + j = off + j / 6 * 6 + 3 by omega]; exact c3
  · rw [hx 4 _ q.symm rfl, show off + j = off + j / 6 * 6 + 4 by omega]; exact c4
  · rw [hx 5 _ q.symm rfl, show off + j = off + j / 6 * 6 + 5 by omega]; exact c5
theorem own_empty (w : World) : (w.alloc (.cells #[] 48)).ownsRow w.heap.size 48 6 (.slice (some ⟨w.heap.size, 0, none⟩) 0 0) 0 [] :=
  ⟨rfl, .inr ⟨w.heap.size, 0, #[], rfl, Nat.le_refl _, heap_alloc_new w _, Nat.le_refl _, by unfold maxLen; omega, rfl, rfl⟩⟩
theorem ltCells_one {ls : List Lt} : ∀ u ∈ ls.flatMap ltCells, u.oneCell' = true := by
  intro u hu
  obtain ⟨l, _, hu⟩ := List.mem_flatMap.1 hu
  simp only [ltCells, List.mem_cons, List.not_mem_nil, or_false] at hu
  rcases hu with rfl | rfl | rfl | rfl | rfl | rfl <;> rfl

set_option maxHeartbeats 1000000 in
set_option maxRecDepth 100000 in
theorem cloneL_calls (b off n c : Nat) (ls : List Lt) (w : World) (hL : LS w (some ⟨b, off, none⟩) n ls) (hn : n ≤ 1000) :
    Calls Tryd.prog 107 #[.slice (some ⟨b, off, none⟩) n c] w fun e w' => ∃ v, e = .returned v ∧ OwnL w' w.heap.size v ls ∧ Below w.heap.size w w' := by
  obtain ⟨i0, hi, hz0, hz1, hz2⟩ := info_parts infoLetter
  have HLA := Lib.hid (fun o => hL.below ((Below.refl w.heap.size w).alloc (Nat.le_refl _) o))
  have HN := Lib.hid hL.1
  have HE := Lib.hid (own_empty w)
  have HB := Lib.hid ((Below.refl w.heap.size w).alloc (Nat.le_refl _) (.cells #[] 48))
  have heq : (binOp BinOp.eql 22 (.slice (some ⟨b, off, none⟩) n c) (.slice none 0 0)).run Tryd.prog w = .ok (.bool false) w := by first | rfl | kernel_rfl
  clear hL
  go_enter Tryd.func107, Tryd.ntmps107
  go_wp2_with (first
    | (at_builtin; refine wpList_append_own_at _ rfl _ _ 22 rfl w.heap.size 48 i0 (.agg #[.int .i64 0, .int .i64 0, .int .i64 0, .int .i64 0, .int .i64 0, .bool false]) 6 48 Tryd.underlying22 hi hz0 hz1 hz2 rfl (by decide) (.slice (some ⟨w.heap.size, 0, none⟩) 0 0) 0 [] rfl HE.out ⟨b, off, none⟩ n c (ls.flatMap ltCells) rfl (by rw [letters_len, HN.out]) (by intro j u hu; rw [Go.WideShapes.add_plain]; exact (HLA.out _).flat hu) ltCells_one (by unfold maxLen; omega) (by omega) HB.out.size ?_; intro v1 w1 hown1 hg1 _ _; have HO := Lib.hid (And.intro hown1 (HB.out.grown hg1 HB.out.size (fun q hq => (HE.out.lt q hq).1))); clear hown1 hg1))
  go_ret
  refine ⟨v1, rfl, ?_, HO.out.2⟩
  have h := HO.out.1
  rw [Nat.zero_add, List.nil_append] at h
  unfold OwnL
  rw [HN.out]
  exact h

/-- The names given so far, the last one, the letters renamed so far. -/
structure RnS where
  nm : List Nat
  last : Nat
  out : List Lt
def rnStep (st : RnS) (j : Nat) (l : Lt) : RnS :=
  if l.kind = 2 then
    if st.nm.getD l.id.toNat 0 = 0 then ⟨st.nm.set l.id.toNat (st.last + 1), st.last + 1, st.out.set j ⟨l.kind, l.gate, l.rank, ((st.last + 1 : Nat) : Int), l.sign, l.over⟩⟩
    else ⟨st.nm, st.last, st.out.set j ⟨l.kind, l.gate, l.rank, ((st.nm.getD l.id.toNat 0 : Nat) : Int), l.sign, l.over⟩⟩
  else st
def rnM (ls : List Lt) (K : Nat) : Nat → RnS
  | 0 => ⟨List.replicate K 0, 0, ls⟩
  | j + 1 => match ls[j]? with
    | some l => rnStep (rnM ls K j) j l
    | none => rnM ls K j
theorem rnM_inv (ls : List Lt) (K : Nat) : ∀ j, j ≤ ls.length → (rnM ls K j).nm.length = K ∧ (rnM ls K j).last ≤ j ∧ (rnM ls K j).out.length = ls.length ∧ (∀ i, j ≤ i → (rnM ls K j).out[i]? = ls[i]?) ∧ ∀ x, x ∈ (rnM ls K j).nm → x ≤ j
  | 0, _ => ⟨by simp [rnM], Nat.le_refl _, rfl, fun _ _ => rfl, fun x hx => by simp [rnM] at hx; omega⟩
  | j + 1, hj => by
    obtain ⟨h1, h2, h3, h4, h5⟩ := rnM_inv ls K j (by omega)
    obtain ⟨l, hl⟩ : ∃ l, ls[j]? = some l := ⟨_, List.getElem?_eq_getElem (by omega)⟩
    rw [rnM, hl]
    dsimp only
    unfold rnStep
    split
    · split
      · refine ⟨by simpa using h1, by simp; omega, by simpa using h3, fun i hi => ?_, fun x hx => ?_⟩
        · rw [List.getElem?_set_ne (by omega)]; exact h4 i (by omega)
        · rcases List.mem_or_eq_of_mem_set hx with q | q
          · have := h5 x q; omega
          · omega
      · refine ⟨h1, by simp; omega, by simpa using h3, fun i hi => ?_, fun x hx => by have := h5 x hx; omega⟩
        rw [List.getElem?_set_ne (by omega)]; exact h4 i (by omega)
    · exact ⟨h1, by omega, h3, fun i hi => h4 i (by omega), fun x hx => by have := h5 x hx; omega⟩
/-- The code with new names. -/
def renL (ls : List Lt) : List Lt := (rnM ls ((cntK 2 ls / 2).toNat + 1) ls.length).out

/-- What lies in memory behind renamed's first statement. -/
def RenMem (w : World) (f : Int) (vc : Value) (n R gL cp : Nat) (ls : List Lt) (wx : World) : Prop :=
  wx.heap[w.heap.size]? = some (.cells #[.int .i64 f, vc] 24 (0, 0)) ∧ wx.heap[w.heap.size + 1]? = some (.cells #[.int .i64 0, .slice none 0 0] 24 (0, 0)) ∧
  wx.heap[R]? = some (.cells #[.int .i64 f, .slice (some ⟨gL, 0, none⟩) n cp] 24 (0, 0)) ∧ w.heap.size + 1 < R ∧ wx.ownsRow (w.heap.size + 2) 48 6 (.slice (some ⟨gL, 0, none⟩) n cp) n (ls.flatMap ltCells) ∧ Below w.heap.size w wx

theorem ren_mem_a {w w2 : World} {f : Int} {vc : Value} {n gL cp : Nat} {ls : List Lt} {W1 : World} (hW1 : W1 = (w.alloc (.cells #[.int .i64 f, vc] 24)).alloc (.cells #[.int .i64 0, .slice none 0 0] 24))
    (hb : Below ((W1.alloc (.cells #[.int .i64 0, .slice none 0 0] 24)).drew).heap.size ((W1.alloc (.cells #[.int .i64 0, .slice none 0 0] 24)).drew) w2)
    (ho : w2.ownsRow ((W1.alloc (.cells #[.int .i64 0, .slice none 0 0] 24)).drew).heap.size 48 6 (.slice (some ⟨gL, 0, none⟩) n cp) n (ls.flatMap ltCells)) :
    RenMem w f vc n (w.heap.size + 1 + 1) gL cp ls ((w2.setCell ⟨w.heap.size + 1 + 1, 0, none⟩ (.int .i64 f)).setCell ⟨w.heap.size + 1 + 1, 1, none⟩ (.slice (some ⟨gL, 0, none⟩) n cp)) := by
  obtain ⟨h1, h2, h3, h4⟩ := two_mem w _ _ W1 hW1
  have hs : W1.heap.size = w.heap.size + 1 + 1 := by rw [hW1]; simp
  obtain ⟨Wa, hWa⟩ : ∃ Wa, (W1.alloc (.cells #[.int .i64 0, .slice none 0 0] 24)).drew = Wa := ⟨_, rfl⟩
  have hsa : Wa.heap.size = w.heap.size + 1 + 1 + 1 := by rw [← hWa]; simp; exact hs
  have hka : Below W1.heap.size W1 Wa := by rw [← hWa]; exact ((Below.refl W1.heap.size W1).alloc (Nat.le_refl _) _).drew
  have hna : Wa.heap[w.heap.size + 1 + 1]? = some (.cells #[.int .i64 0, .slice none 0 0] 24 (0, 0)) := by
    rw [← hWa, ← hs]; exact heap_alloc_new W1 _
  rw [hWa] at hb ho
  have hgl := World.ownsRow.lt ho gL rfl
  have hn2 := (hb.block (w.heap.size + 1 + 1) (by omega)).trans hna
  obtain ⟨X, hX⟩ : ∃ X, X = (w2.setCell ⟨w.heap.size + 1 + 1, 0, none⟩ (.int .i64 f)).setCell ⟨w.heap.size + 1 + 1, 1, none⟩ (.slice (some ⟨gL, 0, none⟩) n cp) := ⟨_, rfl⟩
  have hbw : Below w.heap.size w w2 := (h4.trans (hka.mono h4.size)).trans (hb.mono (by omega))
  obtain ⟨_, _, e3, e4, e5⟩ := res_end (w := w) hn2 (by omega) hbw _ _ hX
  rw [← hX]
  refine ⟨?_, ?_, ?_, by omega, ?_, e3⟩
  · rw [e5 _ (by omega), hb.block _ (by omega), hka.block _ (by omega)]; exact h1
  · rw [e5 _ (by omega), hb.block _ (by omega), hka.block _ (by omega)]; exact h2
  · rw [hX]
    simp [World.setCell, Array.getElem?_modify, hn2]
  · refine own_base' (own_kept2' ho (fun g e => e5 g ?_)) (by omega)
    have e' : gL = g := by simpa [Value.ownBlock] using e
    omega
theorem ren_mem_b {w w2 : World} {f : Int} {vc : Value} {n gL cp : Nat} {ls : List Lt} {W1 : World} (hW1 : W1 = (w.alloc (.cells #[.int .i64 f, vc] 24)).alloc (.cells #[.int .i64 0, .slice none 0 0] 24))
    (hb : Below W1.drew.heap.size W1.drew w2) (ho : w2.ownsRow W1.drew.heap.size 48 6 (.slice (some ⟨gL, 0, none⟩) n cp) n (ls.flatMap ltCells)) :
    RenMem w f vc n w2.heap.size gL cp ls (w2.alloc (.cells #[.int .i64 f, .slice (some ⟨gL, 0, none⟩) n cp] 24)) := by
  obtain ⟨h1, h2, h3, h4⟩ := two_mem w _ _ W1 hW1
  have hs : W1.heap.size = w.heap.size + 1 + 1 := by rw [hW1]; simp
  have hb' : Below W1.heap.size W1 w2 := ((Below.refl W1.heap.size W1).drew).trans hb
  have ho' : w2.ownsRow (w.heap.size + 2) 48 6 (.slice (some ⟨gL, 0, none⟩) n cp) n (ls.flatMap ltCells) := by rw [← show W1.drew.heap.size = w.heap.size + 2 from hs]; exact ho
  have hs2 := hb'.size
  have hka : Below w2.heap.size w2 (w2.alloc (.cells #[.int .i64 f, .slice (some ⟨gL, 0, none⟩) n cp] 24)) := (Below.refl _ _).alloc (Nat.le_refl _) _
  refine ⟨?_, ?_, heap_alloc_new w2 _, by omega, ownsRow_below ho' hka, (h4.trans (hb'.mono h4.size)).trans (hka.mono (by omega))⟩
  · rw [hka.block _ (by omega), hb'.block _ (by omega)]; exact h1
  · rw [hka.block _ (by omega), hb'.block _ (by omega)]; exact h2

theorem getD_is' {α : Type} {l : List α} {i : Nat} {x z : α} (h : l[i]? = some x) : l.getD i z = x := by
  rw [List.getD_eq_getElem?_getD, h]; rfl
/-- What holds at the heads of renamed's loop. -/
def RnRel (w : World) (f : Int) (vc : Value) (ls : List Lt) (n R gL cp gN K : Nat) (lv iv : Value) (wr : World) : Prop :=
  ∃ j : Nat, j ≤ n ∧ iv = .int .i64 (j : Int) ∧ lv = .int .i64 ((rnM ls K j).last : Int) ∧
    wr.heap[w.heap.size]? = some (.cells #[.int .i64 f, vc] 24 (0, 0)) ∧ wr.heap[w.heap.size + 1]? = some (.cells #[.int .i64 0, .slice none 0 0] 24 (0, 0)) ∧
    wr.heap[R]? = some (.cells #[.int .i64 f, .slice (some ⟨gL, 0, none⟩) n cp] 24 (0, 0)) ∧
    wr.ownsRow (w.heap.size + 2) 48 6 (.slice (some ⟨gL, 0, none⟩) n cp) n ((rnM ls K j).out.flatMap ltCells) ∧
    OwnV wr (R + 1) 3 (.slice (some ⟨gN, 0, none⟩) K K) ((rnM ls K j).nm.map intV) ∧ Below w.heap.size w wr

theorem letters_set3 {ls : List Lt} : ∀ {k : Nat} {l : Lt} {x : Int}, ls[k]? = some l → (ls.flatMap ltCells).set (k * 6 + 3) (.int .i64 x) = (ls.set k ⟨l.kind, l.gate, l.rank, x, l.sign, l.over⟩).flatMap ltCells := by
  induction ls with
  | nil => intro k l x h; cases h
  | cons p ps ih =>
    intro k l x h
    cases k with
    | zero =>
      injection h with h
      subst h
      rfl
    | succ k =>
      have := ih (k := k) (l := l) (x := x) (by simpa using h)
      rw [show (k + 1) * 6 + 3 = k * 6 + 3 + 6 by omega, List.set_cons_succ, List.flatMap_cons, List.flatMap_cons, ← this]
      rfl
theorem rn_finish {w wr X : World} {f : Int} {vc : Value} {ls : List Lt} {n R gL cp gN K j : Nat} {S : RnS} (hS : rnM ls K (j + 1) = S) (hj : j + 1 ≤ n)
    (h3 : wr.heap[w.heap.size]? = some (.cells #[.int .i64 f, vc] 24 (0, 0))) (h4 : wr.heap[w.heap.size + 1]? = some (.cells #[.int .i64 0, .slice none 0 0] 24 (0, 0)))
    (h5 : wr.heap[R]? = some (.cells #[.int .i64 f, .slice (some ⟨gL, 0, none⟩) n cp] 24 (0, 0))) (hk : ∀ q, q ≠ gN → q ≠ gL → X.heap[q]? = wr.heap[q]?)
    (hR : w.heap.size + 1 < R ∧ R < gN ∧ w.heap.size + 1 < gL ∧ gL ≠ R ∧ R < wr.heap.size) (hsz : X.heap.size = wr.heap.size)
    (hrow : X.ownsRow (w.heap.size + 2) 48 6 (.slice (some ⟨gL, 0, none⟩) n cp) n (S.out.flatMap ltCells)) (hnm : OwnV X (R + 1) 3 (.slice (some ⟨gN, 0, none⟩) K K) (S.nm.map intV)) (hB : Below w.heap.size w X) (o : Obj) :
    RnRel w f vc ls n R gL cp gN K (.int .i64 (S.last : Int)) (.int .i64 ((j : Int) + 1)) (X.alloc o).drew := by
  obtain ⟨r1, r2, r3, r4, r5⟩ := hR
  have hba : Below X.heap.size X (X.alloc o).drew := ((Below.refl _ _).alloc (Nat.le_refl _) o).drew
  refine ⟨j + 1, hj, by rw [Int.natCast_add]; rfl, by rw [hS], ?_, ?_, ?_, by rw [hS]; exact ownsRow_below hrow hba, by rw [hS]; exact OwnV.below hnm hba, hB.trans (hba.mono hB.size)⟩
  · rw [hba.block _ (by omega), hk _ (by omega) (by omega)]; exact h3
  · rw [hba.block _ (by omega), hk _ (by omega) (by omega)]; exact h4
  · rw [hba.block _ (by omega), hk _ (by omega) (fun e => r4 e.symm)]; exact h5

def RenPost (f : Int) (n : Nat) (ls : List Lt) (w : World) (e : Ending) (w' : World) : Prop :=
  ∃ gL cp, e = .returned (.agg #[.int .i64 f, .slice (some ⟨gL, 0, none⟩) n cp]) ∧ OwnL w' w.heap.size (.slice (some ⟨gL, 0, none⟩) n cp) (renL ls) ∧ Below w.heap.size w w'

set_option maxHeartbeats 4000000 in
set_option maxRecDepth 100000 in
theorem renamed_calls (f : Int) (b off n c : Nat) (ls : List Lt) (w : World) (hL : LS w (some ⟨b, off, none⟩) n ls) (hn : n ≤ 1000) (hn0 : 0 < n) (hid : ∀ l, l ∈ ls → l.kind = 2 → 0 ≤ l.id ∧ l.id ≤ cntK 2 ls / 2) :
    Calls Tryd.prog 66 #[.agg #[.int .i64 f, .slice (some ⟨b, off, none⟩) n c]] w (RenPost f n ls w) := by
  have HL := Lib.hid hL
  have HLN := Lib.hid hL.1
  have HID := Lib.hid hid
  have HCL : Hid (∀ W, Below w.heap.size w W → Calls Tryd.prog 107 #[.slice (some ⟨b, off, none⟩) n c] W fun e w' => ∃ gL cp, e = .returned (.slice (some ⟨gL, 0, none⟩) n cp) ∧ w'.ownsRow W.heap.size 48 6 (.slice (some ⟨gL, 0, none⟩) n cp) n (ls.flatMap ltCells) ∧ Below W.heap.size W w') := by
    intro W hW
    refine (cloneL_calls b off n c ls W (hL.below hW) hn).mono ?_
    rintro e w' ⟨v, rfl, ho, hb⟩
    unfold OwnL at ho
    rw [hL.1] at ho
    rcases ho.2 with ⟨_, h0⟩ | ⟨g, cap, cur, hv, _⟩
    · omega
    · exact ⟨g, cap, by rw [hv], by rw [← hv]; exact ho, hb⟩
  have HCX : Hid (∀ W, Below w.heap.size w W → Calls Tryd.prog 19 #[.agg #[.int .i64 f, .slice (some ⟨b, off, none⟩) n c]] W fun e w' => e = .returned (.int .i64 (cntK 2 ls / 2)) ∧ Below W.heap.size W w') :=
    fun W hW => crossings_calls f _ n c ls W (hL.below hW) (by omega)
  have hx0 := cntK_nonneg 2 ls
  have hx1 : cntK 2 ls ≤ n := by
    have h1 := cntK_take_le 2 ls n
    rw [List.take_of_length_le (by rw [hL.1]; omega)] at h1
    exact h1
  have HREN : Hid (renL ls = (rnM ls ((cntK 2 ls / 2).toNat + 1) ls.length).out) := rfl
  obtain ⟨xc, hxc⟩ : ∃ xc, cntK 2 ls / 2 = xc := ⟨_, rfl⟩
  have hxb : 0 ≤ xc ∧ xc ≤ 1000 := by omega
  rw [hxc] at HCX HREN HID
  obtain ⟨K, hK⟩ : ∃ K, xc.toNat + 1 = K := ⟨_, rfl⟩
  have hKx : xc + 1 = (K : Int) := by omega
  rw [hK] at HREN
  clear hL hid hxc hK hx0 hx1
  go_enter Tryd.func66, Tryd.ntmps66
  go_wp2_with fail
  obtain ⟨W1, hW1⟩ : ∃ W1, W1 = (w.alloc (.cells #[.int .i64 f, .slice (some ⟨b, off, none⟩) n c] 24)).alloc (.cells #[.int .i64 0, .slice none 0 0] 24) := ⟨_, rfl⟩
  have HF1 := Lib.hid (two_mem w _ _ W1 hW1)
  have HW1 := Lib.hid hW1
  have a0 := Lib.cell_of_heap HF1.out.1 0
  have a1 := Lib.cell_of_heap HF1.out.1 1
  have hs1 : W1.heap.size = w.heap.size + 1 + 1 := by rw [hW1]; simp
  have HS1 := Lib.hid hs1
  have HBA : Hid (∀ o, Below w.heap.size w ((W1.alloc o).drew)) := fun o => (HF1.out.2.2.2.alloc HF1.out.2.2.2.size o).drew
  have HBB : Hid (Below w.heap.size w W1.drew) := HF1.out.2.2.2.drew
  have HC0 : Hid (∀ W, Below W1.heap.size W1 W → W.cell? ⟨w.heap.size, 0, none⟩ = some (.int .i64 f)) := fun W hW => (hW.cell (p := ⟨w.heap.size, 0, none⟩) (by show w.heap.size < W1.heap.size; omega)).trans a0
  have HC1 : Hid (∀ W, Below W1.heap.size W1 W → W.cell? ⟨w.heap.size, 1, none⟩ = some (.slice (some ⟨b, off, none⟩) n c)) := fun W hW => (hW.cell (p := ⟨w.heap.size, 1, none⟩) (by show w.heap.size < W1.heap.size; omega)).trans a1
  have HBA2 : Hid (∀ o, Below W1.heap.size W1 (W1.drew.alloc o)) := fun o => ((Below.refl W1.heap.size W1).drew).alloc (Nat.le_refl _) o
  have HBA1 : Hid (∀ o, Below W1.heap.size W1 (W1.alloc o).drew) := fun o => ((Below.refl _ _).alloc (Nat.le_refl _) o).drew
  rw [← hW1]
  clear hW1
  go_cut [3] (fun rv wx => ∃ R gL cp, rv = .pointer (some ⟨R, 0, none⟩) ∧ RenMem w f (.slice (some ⟨b, off, none⟩) n c) n R gL cp ls wx)
  case first =>
    go_region_held3 (fun w' => w'.cell? ⟨w.heap.size, 0, none⟩ = some (.int .i64 f) ∧ w'.cell? ⟨w.heap.size, 1, none⟩ = some (.slice (some ⟨b, off, none⟩) n c) ∧ Below W1.heap.size W1 w')
      (first
        | exact ⟨HC0.out _ (Below.refl _ _).drew, HC1.out _ (Below.refl _ _).drew, (Below.refl _ _).drew⟩
        | exact ⟨HC0.out _ (HBA1.out _), HC1.out _ (HBA1.out _), HBA1.out _⟩
        | exact ⟨HC0.out _ (HBA2.out _), HC1.out _ (HBA2.out _), HBA2.out _⟩
        | exact ⟨HC0.out _ hB2, HC1.out _ hB2, hB2⟩
        | exact ⟨HC0.out _ (hB2.alloc hB2.size _), HC1.out _ (hB2.alloc hB2.size _), hB2.alloc hB2.size _⟩
        | exact ⟨HC0.out _ ((hB2.setCell (p := ⟨w.heap.size + 1 + 1, 0, none⟩) (by show W1.heap.size ≤ w.heap.size + 1 + 1; omega) _).setCell (p := ⟨w.heap.size + 1 + 1, 1, none⟩) (by show W1.heap.size ≤ w.heap.size + 1 + 1; omega) _), HC1.out _ ((hB2.setCell (p := ⟨w.heap.size + 1 + 1, 0, none⟩) (by show W1.heap.size ≤ w.heap.size + 1 + 1; omega) _).setCell (p := ⟨w.heap.size + 1 + 1, 1, none⟩) (by show W1.heap.size ≤ w.heap.size + 1 + 1; omega) _), (hB2.setCell (p := ⟨w.heap.size + 1 + 1, 0, none⟩) (by show W1.heap.size ≤ w.heap.size + 1 + 1; omega) _).setCell (p := ⟨w.heap.size + 1 + 1, 1, none⟩) (by show W1.heap.size ≤ w.heap.size + 1 + 1; omega) _⟩)
      (first
        | (go_at_call 107; (with_reducible refine (HCL.out _ (HBA.out _)).mono ?_); rintro e w2 ⟨gL, cp, rfl, ho, hb⟩; have HOB := Lib.hid (And.intro ho hb); have hB2 : Below W1.heap.size W1 w2 := (HBA1.out _).trans (hb.mono (HBA1.out _).size); have hnw : w2.heap[W1.heap.size]? = some (.cells #[.int .i64 0, .slice none 0 0] 24 (0, 0)) := (hb.block W1.heap.size (by simp)).trans (heap_alloc_new W1 _); rw [hs1] at hnw; have r0 := Lib.cell_of_heap hnw 0; have r1 := Lib.cell_of_heap hnw 1; have rf : ∀ x, w2.frozen? ⟨w.heap.size + 1 + 1, x, none⟩ = false := (by intro x; simp [World.frozen?, hnw]); clear ho hb hnw)
        | (go_at_call 107; (with_reducible refine (HCL.out _ HBB.out).mono ?_); rintro e w2 ⟨gL, cp, rfl, ho, hb⟩; have HOB := Lib.hid (And.intro ho hb); have hB2 : Below W1.heap.size W1 w2 := ((Below.refl W1.heap.size W1).drew).trans hb; clear ho hb))
    all_goals
      go_wp2_with fail
      go_meet
      case rel =>
        first
          | exact ⟨_, _, _, rfl, ren_mem_a HW1.out HOB.out.2 HOB.out.1⟩
          | exact ⟨_, _, _, rfl, ren_mem_b HW1.out HOB.out.2 HOB.out.1⟩
  case rest =>
    obtain ⟨R, gL, cp, rfl, hrm⟩ := hcut
    have HRM := Lib.hid hrm
    obtain ⟨h1, h2, h3, h4, h5, h6⟩ := hrm
    have x0 := Lib.cell_of_heap h1 0
    have x1 := Lib.cell_of_heap h1 1
    have hRl : R < wc.heap.size := by
      rcases Nat.lt_or_ge R wc.heap.size with q | q
      · exact q
      · rw [Array.getElem?_eq_none q] at h3; cases h3
    have hPl : w.heap.size < wc.heap.size := by omega
    have HRL := Lib.hid hRl
    clear h1 h2 h3 h5 h6 a0 a1
    go_wp2_with (first
      | (go_at_call 19; refine (HCX.out _ HRM.out.2.2.2.2.2).mono ?_; rintro e w3 ⟨rfl, hb3⟩; have HB3 := Lib.hid hb3; have hs3 := hb3.size; have y0 := (hb3.cell (p := ⟨w.heap.size, 0, none⟩) hPl).trans x0; have y1 := (hb3.cell (p := ⟨w.heap.size, 1, none⟩) hPl).trans x1; clear hb3)
      | (at_make; refine wpList_make_intsV rfl _ _ rfl K (K : Int) rfl rfl rfl (by omega) ?_; intro w4 hown4 hb4; have HO4 := Lib.hid hown4; have HB4 := Lib.hid hb4; have z0 := (hb4.cell (p := ⟨w.heap.size, 0, none⟩) (by show w.heap.size < w3.heap.size; omega)).trans y0; have z1 := (hb4.cell (p := ⟨w.heap.size, 1, none⟩) (by show w.heap.size < w3.heap.size; omega)).trans y1; clear hown4 hb4))
    obtain ⟨gN, hgN⟩ : ∃ gN, gN = w3.heap.size := ⟨_, rfl⟩
    have HST : Hid (RnRel w f (.slice (some ⟨b, off, none⟩) n c) ls n R gL cp gN K (.int .i64 0) (.int .i64 0) w4) := by
      obtain ⟨h1, h2, h3, h4', h5, h6⟩ := HRM.out
      have hb : Below wc.heap.size wc w4 := HB3.out.trans (HB4.out.mono HB3.out.size)
      refine ⟨0, Nat.zero_le _, rfl, rfl, (hb.block _ (by omega)).trans h1, (hb.block _ (by omega)).trans h2, (hb.block _ (by omega)).trans h3, ownsRow_below h5 hb, ?_, h6.trans (hb.mono h6.size)⟩
      have h7 := HO4.out
      rw [← hgN] at h7
      unfold rnM
      rw [List.map_replicate]
      exact own_base' h7 (by have := HRL.out; omega)
    have HGN : Hid (R < gN) := by unfold Hid; omega
    rw [← hgN]
    clear HO4 HB4 hgN x0 x1 y0 y1 hRl
    go_loopw [5, 21] (fun lv iv wr => RnRel w f (.slice (some ⟨b, off, none⟩) n c) ls n R gL cp gN K lv iv wr) (fun _ iv _ => n - (intOf iv).toNat)
    case atStart => exact HST.out
    case round =>
      obtain ⟨j, hj, rfl, rfl, q1, q2, q3, q4, q5, q6⟩ := hrel
      have HQ : Hid (RnRel w f (.slice (some ⟨b, off, none⟩) n c) ls n R gL cp gN K (.int .i64 ((rnM ls K j).last : Int)) (.int .i64 (j : Int)) wr) := ⟨j, hj, rfl, rfl, q1, q2, q3, q4, q5, q6⟩
      have hinv := rnM_inv ls K j (by rw [HLN.out]; exact hj)
      have HINV := Lib.hid hinv
      have u0 := Lib.cell_of_heap q3 0
      have u1 := Lib.cell_of_heap q3 1
      have hRw : R < wr.heap.size := by
        rcases Nat.lt_or_ge R wr.heap.size with q | q
        · exact q
        · rw [Array.getElem?_eq_none q] at q3; cases q3
      have hgLw := (World.ownsRow.lt q4 gL rfl)
      have hgNw := (World.ownsRow.lt q5 gN rfl)
      have hgLR : gL ≠ R := by
        intro e
        rcases q4.2 with ⟨hv, _⟩ | ⟨g, _, _, hv, _, hh, _⟩
        · cases hv
        · injection hv with hv
          injection hv with hv
          injection hv with hv
          rw [← hv, e, q3] at hh
          injection hh with hh
          injection hh with _ hh
          exact absurd hh (by decide)
      have hgLN : gL ≠ gN := fun e => own_apart q4 q5 (by decide) gL rfl (by rw [e]; rfl)
      have hlast := hinv.2.1
      have hsz := q6.size
      have HRGN := HGN.out
      clear hinv q1 q2
      by_cases hlt : j < n
      · obtain ⟨_, _, l, hA, hbl, hl, c0, c1, c2, c3, c4, c5⟩ := (HL.out.below q6).at_ hlt
        injection hA with hA
        injection hA with e1 e2
        subst e1
        subst e2
        have hji : (j : Int) < n := by omega
        have HLJ := Lib.hid hl
        have hne1 : ¬ gN = wr.heap.size := by omega
        have hne2 : ¬ gL = wr.heap.size := by omega
        have hne3 : ¬ R = wr.heap.size := by omega
        by_cases hk : l.kind = 2
        · have hke : (l.kind != 2) = false := by rw [bne_eq_false_iff_eq]; exact hk
          obtain ⟨id0, id1⟩ := HID.out l (List.mem_of_getElem? hl) hk
          obtain ⟨I, hI⟩ : ∃ I : Nat, l.id = (I : Int) := ⟨l.id.toNat, by omega⟩
          have hIK : I < K := by omega
          have hIi : (I : Int) < (K : Int) := by omega
          obtain ⟨xv, hxv, n0, nf, _, _⟩ := OwnV.cell q5 hIK
          obtain ⟨v, hv, rfl⟩ : ∃ v, (rnM ls K j).nm[I]? = some v ∧ xv = intV v := by
            rw [List.getElem?_map] at hxv
            cases hh : (rnM ls K j).nm[I]? with
            | none => rw [hh] at hxv; cases hxv
            | some y => rw [hh] at hxv; injection hxv with hxv; exact ⟨y, rfl, hxv.symm⟩
          unfold intV at n0
          have hvb := HINV.out.2.2.2.2 v (List.mem_of_getElem? hv)
          have hout : (rnM ls K j).out[j]? = some l := by rw [HINV.out.2.2.2.1 j (Nat.le_refl _)]; exact hl
          have r3 := ownsRow_cell q4 (letters_at hout 3 _ rfl)
          have s3 : wr.cell? ⟨gL, j * 6 + 3, none⟩ = some (.int .i64 l.id) := r3.1
          have s3f : wr.frozen? ⟨gL, j * 6 + 3, none⟩ = false := r3.2.1
          have HSTEP : Hid (rnM ls K (j + 1) = rnStep (rnM ls K j) j l) := by unfold Hid; rw [rnM, HLJ.out]
          have HK := Lib.hid hk
          have HV := Lib.hid hv
          have HII := Lib.hid hI
          rw [hI] at c3
          have hgd : (rnM ls K j).nm.getD l.id.toNat 0 = v := by rw [hI, Int.toNat_natCast]; exact getD_is' hv
          have HGD := Lib.hid hgd
          obtain ⟨la, hla⟩ : ∃ la, (rnM ls K j).last = la := ⟨_, rfl⟩
          rw [hla] at hlast
          have HLA := Lib.hid hla
          clear r3 hxv hl hout id0 id1 hk hgd hI q3 q4 q5
          by_cases hv0 : v = 0
          · have hvz : ((v : Int) == 0) = true := by rw [beq_iff_eq]; omega
            have la1 : IntKind.i64.wrap ((la : Int) + 1) = (la : Int) + 1 := wrapI (by omega) (by omega)
            go_wp2_with fail
            go_region
            go_wp2_with fail
            go_roundw
            case rel =>
              obtain ⟨j', h0, h1, h2, h3, h4, h5, h6, h7, h8⟩ := HQ.out
              injection h1 with _ h1
              have hjj : j' = j := by omega
              subst hjj
              have hout : (rnM ls K j').out[j']? = some l := by rw [HINV.out.2.2.2.1 j' (Nat.le_refl _)]; exact HLJ.out
              have hS : rnM ls K (j' + 1) = ⟨(rnM ls K j').nm.set I (la + 1), la + 1, (rnM ls K j').out.set j' ⟨l.kind, l.gate, l.rank, ((la + 1 : Nat) : Int), l.sign, l.over⟩⟩ := by
                rw [HSTEP.out]
                unfold rnStep
                rw [if_pos HK.out, HGD.out, if_pos hv0, HLA.out, HII.out, Int.toNat_natCast]
              have e1 : OwnV (wr.setCell ⟨gN, I, none⟩ (.int .i64 ((la : Int) + 1))) (R + 1) 3 (.slice (some ⟨gN, 0, none⟩) K K) (((rnM ls K j').nm.set I (la + 1)).map intV) := by
                rw [List.map_set]
                exact OwnV.set h7 hIK _
              have e2 : OwnV ((wr.setCell ⟨gN, I, none⟩ (.int .i64 ((la : Int) + 1))).setCell ⟨gL, j' * 6 + 3, none⟩ (.int .i64 ((la : Int) + 1))) (R + 1) 3 (.slice (some ⟨gN, 0, none⟩) K K) (((rnM ls K j').nm.set I (la + 1)).map intV) :=
                e1.kept (Below.heap_setCell _ _ _ gN (fun e => hgLN e.symm))
              have e3 : (wr.setCell ⟨gN, I, none⟩ (.int .i64 ((la : Int) + 1))).ownsRow (w.heap.size + 2) 48 6 (.slice (some ⟨gL, 0, none⟩) n cp) n ((rnM ls K j').out.flatMap ltCells) :=
                own_kept2' h6 (fun g e => Below.heap_setCell _ _ _ g (fun e2 => hgLN (by have e' : gL = g := (by simpa [Value.ownBlock] using e); rw [e']; exact e2)))
              have e4 := ownsRow_set e3 (j' * 6 + 3) (.int .i64 ((la : Int) + 1))
              rw [letters_set3 hout] at e4
              have e5 := rn_finish hS (by omega) h3 h4 h5 (fun q q1 q2 => (Below.heap_setCell _ _ _ q q2).trans (Below.heap_setCell _ _ _ q q1)) ⟨HRM.out.2.2.2.1, HRGN, by omega, hgLR, hRw⟩ (by simp) e4 e2
                ((h8.setCell (p := ⟨gN, I, none⟩) (by show w.heap.size ≤ gN; omega) _).setCell (p := ⟨gL, j' * 6 + 3, none⟩) (by show w.heap.size ≤ gL; omega) _) (.cells #[.int .i64 l.kind, .int .i64 l.gate, .int .i64 l.rank, .int .i64 (I : Int), .int .i64 l.sign, .bool l.over] 48)
              exact e5
            case measure => simp [intOf]; omega
          · have hvz : ((v : Int) == 0) = false := by rw [beq_eq_false_iff_ne]; omega
            have la1 : IntKind.i64.wrap ((la : Int) + 1) = (la : Int) + 1 := wrapI (by omega) (by omega)
            go_wp2_with fail
            go_region
            go_wp2_with fail
            go_roundw
            case rel =>
              obtain ⟨j', h0, h1, h2, h3, h4, h5, h6, h7, h8⟩ := HQ.out
              injection h1 with _ h1
              have hjj : j' = j := by omega
              subst hjj
              have hout : (rnM ls K j').out[j']? = some l := by rw [HINV.out.2.2.2.1 j' (Nat.le_refl _)]; exact HLJ.out
              have hS : rnM ls K (j' + 1) = ⟨(rnM ls K j').nm, la, (rnM ls K j').out.set j' ⟨l.kind, l.gate, l.rank, ((v : Nat) : Int), l.sign, l.over⟩⟩ := by
                rw [HSTEP.out]
                unfold rnStep
                rw [if_pos HK.out, HGD.out, if_neg hv0, HLA.out]
              have e2 : OwnV (wr.setCell ⟨gL, j' * 6 + 3, none⟩ (.int .i64 (v : Int))) (R + 1) 3 (.slice (some ⟨gN, 0, none⟩) K K) ((rnM ls K j').nm.map intV) :=
                OwnV.kept h7 (Below.heap_setCell _ _ _ gN (fun e => hgLN e.symm))
              have e4 := ownsRow_set h6 (j' * 6 + 3) (.int .i64 (v : Int))
              rw [letters_set3 hout] at e4
              have e5 := rn_finish hS (by omega) h3 h4 h5 (fun q q1 q2 => (Below.heap_setCell _ _ _ q q2)) ⟨HRM.out.2.2.2.1, HRGN, by omega, hgLR, hRw⟩ (by simp) e4 e2
                (h8.setCell (p := ⟨gL, j' * 6 + 3, none⟩) (by show w.heap.size ≤ gL; omega) _) (.cells #[.int .i64 l.kind, .int .i64 l.gate, .int .i64 l.rank, .int .i64 (I : Int), .int .i64 l.sign, .bool l.over] 48)
              exact e5
            case measure => simp [intOf]; omega
        · have hke : (l.kind != 2) = true := by rw [bne_iff_ne]; exact hk
          have HSTEP : Hid (rnM ls K (j + 1) = rnM ls K j) := by unfold Hid; rw [rnM, HLJ.out]; dsimp only; unfold rnStep; rw [if_neg hk]
          clear hk hl q3 q4 q5
          go_wp2_with fail
          go_roundw
          case rel =>
            obtain ⟨j', h0, h1, h2, h3, h4, h5, h6, h7, h8⟩ := HQ.out
            injection h1 with _ h1
            have hjj : j' = j := by omega
            subst hjj
            have hba : Below wr.heap.size wr (wr.alloc (.cells #[.int .i64 l.kind, .int .i64 l.gate, .int .i64 l.rank, .int .i64 l.id, .int .i64 l.sign, .bool l.over] 48)) := (Below.refl _ _).alloc (Nat.le_refl _) _
            refine ⟨j' + 1, by omega, by rw [Int.natCast_add]; rfl, by rw [HSTEP.out], (hba.block _ (by omega)).trans h3, (hba.block _ (by omega)).trans h4, (hba.block _ hRw).trans h5, by rw [HSTEP.out]; exact ownsRow_below h6 hba, by rw [HSTEP.out]; exact OwnV.below h7 hba, h8.trans (hba.mono h8.size)⟩
          case measure => simp [intOf]; omega
      · obtain rfl : j = n := by omega
        obtain ⟨j', h0, h1, h2, h3, h4, h5, h6, h7, h8⟩ := HQ.out
        injection h1 with _ h1
        have hjj : j' = j := by omega
        subst hjj
        have z0 := Lib.cell_of_heap h4 0
        have z1 := Lib.cell_of_heap h4 1
        have zf : ∀ k, wr.frozen? ⟨w.heap.size + 1, k, none⟩ = false := fun k => by simp [World.frozen?, h4]
        have zf0 := zf 0
        have zf1 := zf 1
        have HH := Lib.hid (And.intro h4 (And.intro h6 h8))
        clear zf h1 h2 h3 h4 h5 h6 h7 h8 q3 q4 q5
        go_wp2_with fail
        obtain ⟨X, hX⟩ : ∃ X, X = (wr.setCell ⟨w.heap.size + 1, 0, none⟩ (.int .i64 f)).setCell ⟨w.heap.size + 1, 1, none⟩ (.slice (some ⟨gL, 0, none⟩) j' cp) := ⟨_, rfl⟩
        obtain ⟨k0, k1, hXB, _, hXK⟩ := res_end HH.out.1 (by omega) HH.out.2.2 _ _ hX
        rw [← hX]
        refine bodyPost_ret (v := .agg #[.int .i64 f, .slice (some ⟨gL, 0, none⟩) j' cp]) (by simp [results, Tryd.results66, go_sem, k0, k1]) rfl ?_
        refine ⟨gL, cp, rfl, ?_, hXB⟩
        have h1 := own_base' (B := w.heap.size) (own_kept2' HH.out.2.1 (fun g e => hXK g (by have e' : gL = g := (by simpa [Value.ownBlock] using e); omega))) (by omega)
        unfold OwnL
        rw [HREN.out, HLN.out]
        have hlen := HINV.out.2.2.1
        rw [HLN.out] at hlen
        rw [hlen]
        exact h1

end Go.Proofs.YtjdabkniojmacaaDoor
