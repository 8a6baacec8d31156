/-
  The walk of the reference's Rename: it names as the program does.
-/
import Derived.Test.YtjdabkniojmacaaDoorRefO
import Derived.Test.YtjdabkniojmacaaDoorRefU
import Derived.Test.YtjdabkniojmacaaDoorRenm
namespace Go.Proofs.YtjdabkniojmacaaDoor
open Go.RowKit

theorem lt_of_some {α : Type} {l : List α} {i : Nat} {x : α} (h : l[i]? = some x) : i < l.length := by
  rcases Nat.lt_or_ge i l.length with c | c
  · exact c
  · rw [List.getElem?_eq_none c] at h; cases h
/-- The names given so far are the list of the IDs met so far. -/
def RnInv (met : List Int) (S : RnS) (K : Nat) : Prop :=
  S.nm.length = K ∧ S.last = met.length ∧ (∀ (k : Nat) v, met[k]? = some v → 0 ≤ v ∧ v.toNat < K ∧ S.nm[v.toNat]? = some (k + 1)) ∧ ∀ (i x : Nat), S.nm[i]? = some x → x ≠ 0 → met[x - 1]? = some (i : Int)
theorem rnInv_zero (ls : List Lt) (K : Nat) : RnInv [] (rnM ls K 0) K := by
  refine ⟨by simp [rnM], rfl, fun k v h => by simp at h, fun i x h hx => ?_⟩
  simp only [rnM, List.getElem?_replicate] at h
  split at h
  · injection h with h; exact absurd h.symm hx
  · cases h
theorem getD_some' {α : Type} {l : List α} {i : Nat} {x z : α} (h : l[i]? = some x) : l.getD i z = x := by
  rw [List.getD_eq_getElem?_getD, h]; rfl
theorem rn_known {met : List Int} {S : RnS} {K j k : Nat} {l : Lt} (h : RnInv met S K) (hk : l.kind = 2) (hm : met[k]? = some l.id) :
    rnStep S j l = ⟨S.nm, S.last, S.out.set j ⟨l.kind, l.gate, l.rank, (k : Int) + 1, l.sign, l.over⟩⟩ ∧ RnInv met (rnStep S j l) K := by
  obtain ⟨h1, h2, h3, h4⟩ := h
  have h5 := getD_some' (z := 0) (h3 k _ hm).2.2
  have e : rnStep S j l = ⟨S.nm, S.last, S.out.set j ⟨l.kind, l.gate, l.rank, (k : Int) + 1, l.sign, l.over⟩⟩ := by
    unfold rnStep
    rw [if_pos hk, h5, if_neg (by omega)]
    rfl
  exact ⟨e, by rw [e]; exact ⟨h1, h2, h3, h4⟩⟩
theorem rn_new {met : List Int} {S : RnS} {K j : Nat} {l : Lt} (h : RnInv met S K) (hk : l.kind = 2) (hid : 0 ≤ l.id ∧ l.id.toNat < K) (hm : ∀ k : Nat, met[k]? ≠ some l.id) :
    rnStep S j l = ⟨S.nm.set l.id.toNat (S.last + 1), S.last + 1, S.out.set j ⟨l.kind, l.gate, l.rank, (met.length : Int) + 1, l.sign, l.over⟩⟩ ∧ RnInv (met ++ [l.id]) (rnStep S j l) K ∧ ∀ k : Nat, (met ++ [l.id])[k]? = some l.id → k = met.length := by
  obtain ⟨h1, h2, h3, h4⟩ := h
  have hlt : l.id.toNat < S.nm.length := by omega
  have h6 : S.nm[l.id.toNat]? = some (S.nm[l.id.toNat]) := List.getElem?_eq_getElem hlt
  have h7 : S.nm[l.id.toNat] = 0 := by
    rcases Nat.eq_zero_or_pos (S.nm[l.id.toNat]) with c | c
    · exact c
    · have := h4 _ _ h6 (by omega)
      rw [show ((l.id.toNat : Nat) : Int) = l.id by omega] at this
      exact absurd this (hm _)
  rw [h7] at h6
  have h5 := getD_some' (z := 0) h6
  have e : rnStep S j l = ⟨S.nm.set l.id.toNat (S.last + 1), S.last + 1, S.out.set j ⟨l.kind, l.gate, l.rank, (met.length : Int) + 1, l.sign, l.over⟩⟩ := by
    unfold rnStep
    rw [if_pos hk, h5, if_pos rfl, h2]
    rfl
  refine ⟨e, ?_, fun k hk' => ?_⟩
  · rw [e]
    refine ⟨by simpa using h1, by simp; omega, fun k v hv => ?_, fun i x hx hx0 => ?_⟩
    · by_cases hkl : k < met.length
      · rw [List.getElem?_append_left hkl] at hv
        obtain ⟨a, b, c⟩ := h3 k v hv
        refine ⟨a, b, ?_⟩
        show (S.nm.set _ _)[_]? = _
        rw [List.getElem?_set_ne (fun q => hm k (by rw [hv]; congr 1; omega))]
        exact c
      · rw [List.getElem?_append_right (by omega)] at hv
        have hk0 : k = met.length := by
          rcases Nat.lt_or_ge (k - met.length) 1 with q | q
          · omega
          · rw [List.getElem?_eq_none (by simp; omega)] at hv; cases hv
        subst hk0
        rw [Nat.sub_self] at hv
        injection hv with hv
        subst hv
        refine ⟨hid.1, hid.2, ?_⟩
        show (S.nm.set _ _)[_]? = _
        rw [List.getElem?_set_self hlt, h2]
    · by_cases hi : l.id.toNat = i
      · subst hi
        change (S.nm.set _ _)[_]? = _ at hx
        rw [List.getElem?_set_self hlt] at hx
        injection hx with hx
        rw [← hx, Nat.add_sub_cancel, h2, List.getElem?_append_right (Nat.le_refl _), Nat.sub_self]
        show some l.id = _
        congr 1
        omega
      · change (S.nm.set _ _)[_]? = _ at hx
        rw [List.getElem?_set_ne hi] at hx
        have := h4 i x hx hx0
        rw [List.getElem?_append_left (lt_of_some this)]
        exact this
  · by_cases hkl : k < met.length
    · rw [List.getElem?_append_left hkl] at hk'
      exact absurd hk' (hm k)
    · rcases Nat.lt_or_ge (k - met.length) 1 with q | q
      · omega
      · rw [List.getElem?_append_right (by omega), List.getElem?_eq_none (by simp; omega)] at hk'; cases hk'

/-- What holds at the heads of the reference's loop. -/
def RrR (P r1 R : Nat) (f : Int) (vc v : Value) (n : Nat) (L : List Lt) (w : World) (mv : Value) (met : List Int) (wr : World) : Prop :=
  wr.heap[P]? = some (.cells #[.int .i64 f, vc] 24 (0, 0)) ∧ wr.heap[r1]? = some (.cells #[.int .i64 0, .slice none 0 0] 24 (0, 0)) ∧ wr.heap[R]? = some (.cells #[.int .i64 f, v] 24 (0, 0)) ∧
    wr.ownsRow (w.heap.size + 2) 48 6 v n (L.flatMap ltCells) ∧ OwnV wr (w.heap.size + 3) 3 mv (met.map (Value.int .i64)) ∧ Below w.heap.size w wr
theorem RrR.below {P r1 R : Nat} {f : Int} {vc v : Value} {n : Nat} {L : List Lt} {w : World} {mv : Value} {met : List Int} {X Y : World} (k : RrR P r1 R f vc v n L w mv met X) (hb : Below X.heap.size X Y) : RrR P r1 R f vc v n L w mv met Y := by
  obtain ⟨h1, h2, h3, h4, h5, h6⟩ := k
  exact ⟨(hb.block _ (heap_lt h1)).trans h1, (hb.block _ (heap_lt h2)).trans h2, (hb.block _ (heap_lt h3)).trans h3, ownsRow_below h4 hb, h5.below hb, h6.trans (hb.mono h6.size)⟩
def RrRel (P r1 R : Nat) (f : Int) (vc v : Value) (n K : Nat) (ls : List Lt) (w : World) (mv iv : Value) (wr : World) : Prop :=
  ∃ (j : Nat) (met : List Int), j ≤ n ∧ iv = .int .i64 (j : Int) ∧ met.length ≤ j ∧ RnInv met (rnM ls K j) K ∧ RrR P r1 R f vc v n (rnM ls K j).out w mv met wr

theorem at_found {met : List Int} {x : Int} {k : Nat} {r : Int} (hu : ∀ k' : Nat, met[k']? = some x → k' = k) (hk : met[k]? = some x) (h : (∃ q : Nat, r = q ∧ met[q]? = some x) ∨ (r = -1 ∧ ∀ q : Nat, met[q]? ≠ some x)) : r = (k : Int) := by
  rcases h with ⟨q, rfl, hq⟩ | ⟨_, hno⟩
  · rw [hu q hq]
  · exact absurd hk (hno k)
theorem cell_heap_eq {w w' : World} {b o : Nat} (h : w'.heap[b]? = w.heap[b]?) : w'.cell? ⟨b, o, none⟩ = w.cell? ⟨b, o, none⟩ := by simp [World.cell?, h]
theorem RrR.grown {P r1 R : Nat} {f : Int} {vc v : Value} {n : Nat} {L : List Lt} {w : World} {mv v5 : Value} {met met' : List Int} {X Y : World} {m : Nat} {ds : List Value} (k : RrR P r1 R f vc v n L w mv met X) (hd : X.ownsRow (w.heap.size + 3) 3 1 mv m ds) (hg : X.grownBy Y mv.ownBlock)
    (h5 : OwnV Y (w.heap.size + 3) 3 v5 (met'.map (Value.int .i64))) : RrR P r1 R f vc v n L w v5 met' Y := by
  obtain ⟨h1, h2, h3, h4, _, h6⟩ := k
  have e : ∀ (q : Nat) (o : Array Value), X.heap[q]? = some (Obj.cells o 24 (0, 0)) → Y.heap[q]? = X.heap[q]? := fun q o hq => hg.block q (heap_lt hq) (fun e => own_obj_ne hd hq (by decide) q e.symm rfl)
  exact ⟨(e _ _ h1).trans h1, (e _ _ h2).trans h2, (e _ _ h3).trans h3, own_kept2' h4 (fun g e1 => hg.block g ((World.ownsRow.lt h4 g e1).2) (fun e3 => own_apart h4 hd (by decide) g e1 e3.symm)), h5, h6.grown hg h6.size (fun q hq => by have := (World.ownsRow.lt hd q hq).1; omega)⟩
theorem RrR.set {P r1 R : Nat} {f : Int} {vc : Value} {gL cv n : Nat} {L : List Lt} {w : World} {mv : Value} {met : List Int} {X : World} {j : Nat} {l : Lt} {x : Int} (k : RrR P r1 R f vc (.slice (some ⟨gL, 0, none⟩) n cv) n L w mv met X) (hl : L[j]? = some l) (hP : P ≠ gL) (hr : r1 ≠ gL) (hR : R ≠ gL) (hg : w.heap.size ≤ gL) :
    RrR P r1 R f vc (.slice (some ⟨gL, 0, none⟩) n cv) n (L.set j ⟨l.kind, l.gate, l.rank, x, l.sign, l.over⟩) w mv met (X.setCell ⟨gL, j * 6 + 3, none⟩ (.int .i64 x)) := by
  obtain ⟨h1, h2, h3, h4, h5, h6⟩ := k
  have e : ∀ q, q ≠ gL → (X.setCell ⟨gL, j * 6 + 3, none⟩ (.int .i64 x)).heap[q]? = X.heap[q]? := fun q hq => Below.heap_setCell _ _ _ q hq
  have h7 := ownsRow_set h4 (j * 6 + 3) (.int .i64 x)
  rw [letters_set3 hl] at h7
  exact ⟨(e _ hP).trans h1, (e _ hr).trans h2, (e _ hR).trans h3, h7, own_kept2' h5 (fun g e1 => e g (fun e2 => own_apart h4 h5 (by decide) g (by rw [e2]; rfl) e1)), h6.setCell (p := ⟨gL, j * 6 + 3, none⟩) hg _⟩
/-- What the ID's store reads. -/
def RrS (P R b o3 : Nat) (f x : Int) (vc v : Value) (w w' : World) : Prop :=
  w'.cell? ⟨P, 1, none⟩ = some vc ∧ w'.cell? ⟨R, 1, none⟩ = some v ∧ w'.cell? ⟨b, o3, none⟩ = some (.int .i64 x) ∧
  w'.heap[P]? = some (.cells #[.int .i64 f, vc] 24 (0, 0)) ∧ w'.heap[R]? = some (.cells #[.int .i64 f, v] 24 (0, 0)) ∧ Below w.heap.size w w'
theorem RrS.of {P R b o3 : Nat} {f x : Int} {vc v : Value} {w w' : World} (h1 : w'.heap[P]? = some (.cells #[.int .i64 f, vc] 24 (0, 0))) (h2 : w'.heap[R]? = some (.cells #[.int .i64 f, v] 24 (0, 0))) (h3 : w'.cell? ⟨b, o3, none⟩ = some (.int .i64 x)) (hb : Below w.heap.size w w') : RrS P R b o3 f x vc v w w' :=
  ⟨Lib.cell_of_heap h1 1, Lib.cell_of_heap h2 1, h3, h1, h2, hb⟩

set_option maxHeartbeats 8000000 in
set_option maxRecDepth 100000 in
theorem refRename_calls (f : Int) (A : Option Addr) (n c : Nat) (ls : List Lt) (w : World) (hL : LS w A n ls) (hz : A = none → c = 0) (hsp : ∀ a, A = some a → a.spot = none) (hn : n ≤ 1000) (hid : ∀ l, l ∈ ls → l.kind = 2 → 0 ≤ l.id ∧ l.id ≤ cntK 2 ls / 2) :
    Calls Tryd.prog 26 #[.agg #[.int .i64 f, .slice A n c]] w (OkC f n (renL ls) w) := by
  have HLN : Hid (ls.length = n) := hL.1
  have HLL := Lib.hid hL
  have HCP : Hid (∀ W, Below w.heap.size w W → Calls Tryd.prog 29 #[.agg #[.int .i64 f, .slice A n c]] W fun e w' => ∃ Av cv, e = .returned (.agg #[.int .i64 f, .slice Av n cv]) ∧ w'.ownsRow W.heap.size 48 6 (.slice Av n cv) n (ls.flatMap ltCells) ∧ Below W.heap.size W w') :=
    fun W hW => refCopy2 f A n c ls W (hL.below hW) hz hsp (by omega)
  obtain ⟨K, hK⟩ : ∃ K, (cntK 2 ls / 2).toNat + 1 = K := ⟨_, rfl⟩
  have HRL : Hid (renL ls = (rnM ls K n).out) := by unfold Hid renL; rw [hK, hL.1]
  have HID : Hid (∀ l, l ∈ ls → l.kind = 2 → 0 ≤ l.id ∧ l.id.toNat < K) := fun l hl hk => by have := hid l hl hk; omega
  obtain ⟨i0, hi, hz0, hz1, hz2⟩ := info_parts infoInt'
  obtain ⟨RL, hRL⟩ : ∃ RL, renL ls = RL := ⟨_, rfl⟩
  rw [hRL] at HRL ⊢
  clear hL hz hsp hid hK hRL
  go_enter Tryd.func26, Tryd.ntmps26
  go_wp2_with fail
  obtain ⟨W0, hW0⟩ : ∃ W0, W0 = (w.alloc (.cells #[.int .i64 f, .slice A n c] 24)).alloc (.cells #[.int .i64 0, .slice none 0 0] 24) := ⟨_, rfl⟩
  have HF0 := Lib.hid (two_mem w _ _ W0 hW0)
  have HWS : Hid (W0.heap.size = w.heap.size + 2) := by rw [hW0]; unfold Hid; simp
  rw [← hW0]
  clear hW0
  refine (HCP.out _ HF0.out.2.2.2).mono ?_
  rintro e w1 ⟨Av, cv, rfl, ho, hb1⟩
  go_wp2_with fail
  obtain ⟨W1, hW1⟩ : ∃ W1, W1 = w1.alloc (.cells #[.int .i64 f, .slice Av n cv] 24) := ⟨_, rfl⟩
  have hba : Below w1.heap.size w1 W1 := by rw [hW1]; exact (Below.refl _ _).alloc (Nat.le_refl _) _
  have HM1 := Lib.hid (two_next (two_next HF0.out hb1) hba)
  obtain ⟨R, hR⟩ : ∃ R, R = w1.heap.size := ⟨_, rfl⟩
  obtain ⟨P, hP⟩ : ∃ P, P = w.heap.size := ⟨_, rfl⟩
  obtain ⟨r1, hr1⟩ : ∃ r1, r1 = w.heap.size + 1 := ⟨_, rfl⟩
  have HST : Hid (RrRel P r1 R f (.slice A n c) (.slice Av n cv) n K ls w (.slice none 0 0) (.int .i64 0) W1) := by
    refine ⟨0, [], Nat.zero_le _, rfl, Nat.le_refl _, rnInv_zero ls K, by rw [hP]; exact HM1.out.1, by rw [hr1]; exact HM1.out.2.1, by rw [hW1, hR]; exact heap_alloc_new w1 _, ?_, World.ownsRow_nil _ _ _ _, HM1.out.2.2.2⟩
    rw [← HWS.out]
    exact ownsRow_below ho hba
  have hRw : w.heap.size + 1 < R := by have := (two_next HF0.out hb1).2.2.1; omega
  have hwr1 : w.heap.size ≤ r1 := by omega
  have hPR : P ≠ R := by omega
  have hrR : r1 ≠ R := by omega
  have hPb : P < w.heap.size + 2 := by omega
  have hrb : r1 < w.heap.size + 2 := by omega
  rw [← hW1, ← hR, ← hr1, ← hP]
  clear hba hW1 hR ho hb1 HM1 hP hr1 HF0 HWS HCP
  go_loopw [4, 5] (fun mv iv wr => RrRel P r1 R f (.slice A n c) (.slice Av n cv) n K ls w mv iv wr) (fun _ iv _ => n - (intOf iv).toNat)
  case atStart => exact HST.out
  case round =>
    obtain ⟨j, met, hj, rfl, hml, hinv, hrr⟩ := hrel
    have HRR := Lib.hid hrr
    have HINV := Lib.hid hinv
    have HML := Lib.hid hml
    obtain ⟨q1, q2, q3, q4, q5, q6⟩ := hrr
    obtain ⟨Am, cm, hmv⟩ := own_form q5
    rw [List.length_map] at hmv
    obtain ⟨ml, hmle⟩ : ∃ ml, met.length = ml := ⟨_, rfl⟩
    rw [hmle] at hmv
    subst hmv
    have HMLE := Lib.hid hmle
    have HSM : Hid (SL wr Am ml met) := SL.of_own (base := w.heap.size + 3) (e := 3) (c := cm) (by unfold OwnV at q5; rw [List.length_map, hmle] at q5; exact q5)
    have x0 := Lib.cell_of_heap q3 0
    have x1 := Lib.cell_of_heap q3 1
    have y0 := Lib.cell_of_heap q1 0
    have y1 := Lib.cell_of_heap q1 1
    by_cases hlt : j < n
    · obtain ⟨b, off, l, rfl, hbl, hl, d0, d1, d2, d3, d4, d5⟩ := (HLL.out.below q6).at_ hlt
      obtain ⟨gL, rfl⟩ : ∃ gL, Av = some ⟨gL, 0, none⟩ := by
        rcases q4.2 with ⟨_, h0⟩ | ⟨g, cap, cur, hv, _⟩
        · omega
        · injection hv with e1; exact ⟨g, e1⟩
      have hgR := row_code_ne q4 q3
      have hio := rnM_inv ls K j (by rw [HLN.out]; exact hj)
      have hol : (rnM ls K j).out[j]? = some l := (hio.2.2.2.1 j (Nat.le_refl _)).trans hl
      have HAT := Lib.hid (letters_at hol)
      have e0 := ownsRow_cell q4 (HAT.out 0 _ rfl)
      have e3 := ownsRow_cell q4 (HAT.out 3 _ rfl)
      have c0 : wr.cell? ⟨gL, j * 6, none⟩ = some (.int .i64 l.kind) := e0.1
      have c3 : wr.cell? ⟨gL, j * 6 + 3, none⟩ = some (.int .i64 l.id) := e3.1
      have g3 : wr.frozen? ⟨gL, j * 6 + 3, none⟩ = false := e3.2.1
      have hgb := e0.2.2
      have hji : (j : Int) < n := by omega
      have HL := Lib.hid hl
      have HOL := Lib.hid hol
      have hstep : rnM ls K (j + 1) = rnStep (rnM ls K j) j l := by rw [rnM, hl]
      have HSTEP := Lib.hid hstep
      clear q1 q2 q3 q4 q5 q6 e0 e3 hl hol hio hinv hml hmle hstep d0 d1 d2 d4 d5
      by_cases hk : l.kind = 2
      · have hke : (l.kind != 2) = false := by rw [bne_eq_false_iff_eq]; exact hk
        have HK := Lib.hid hk
        clear hk
        have hmb : ml ≤ 1000000 := by have := HML.out; have := HMLE.out; omega
        have hKn : 0 ≤ l.id ∧ l.id.toNat < K := HID.out l (List.mem_of_getElem? HL.out) HK.out
        have HKN := Lib.hid hKn
        clear hKn
        go_wp2_with fail
        refine (at_calls Am ml cm met l.id wr HSM.out hmb).mono ?_
        rintro e w2 ⟨r, rfl, hr, hb2⟩
        have HR2 := Lib.hid (HRR.out.below hb2)
        have a0 := Lib.cell_of_heap HR2.out.1 0
        have a1 := Lib.cell_of_heap HR2.out.1 1
        have a2 := Lib.cell_of_heap HR2.out.2.2.1 0
        have a3 := Lib.cell_of_heap HR2.out.2.2.1 1
        have hd3 := (hb2.cell (p := ⟨b, off + j * 6 + 3, none⟩) hbl).trans d3
        have hc3 := (ownsRow_cell HR2.out.2.2.2.1 (HAT.out 3 _ rfl))
        have hc3c : w2.cell? ⟨gL, j * 6 + 3, none⟩ = some (.int .i64 l.id) := hc3.1
        have hc3f : w2.frozen? ⟨gL, j * 6 + 3, none⟩ = false := hc3.2.1
        have HB2 := Lib.hid hb2
        have HD3 := Lib.hid hd3
        have hb2l : b < w2.heap.size := Nat.lt_of_lt_of_le hbl hb2.size
        have HGB : Hid (w.heap.size + 2 ≤ gL) := hgb.1
        have HBW : Hid (b < w.heap.size) := by
          obtain ⟨b9, off9, _, hA9, hb9, _⟩ := HLL.out.at_ hlt
          injection hA9 with hA9
          injection hA9 with e9
          unfold Hid
          rw [e9]; exact hb9
        have HROWC := Lib.hid HR2.out.2.2.2.1
        clear hb2 hc3 x0 x1 y0 y1 c0 c3 g3 hd3 d3
        rcases hr with ⟨k, rfl, hk⟩ | ⟨rfl, hk⟩
        · have hlt0 : decide ((k : Int) < 0) = false := by rw [decide_eq_false_iff_not]; omega
          obtain ⟨hst, hin2⟩ := rn_known (j := j) HINV.out HK.out hk
          have hun : ∀ k' : Nat, met[k']? = some l.id → k' = k := fun k' hk' => by
            have h1 := (HINV.out.2.2.1 k _ hk).2.2
            have h2 := (HINV.out.2.2.1 k' _ hk').2.2
            rw [h1] at h2
            injection h2 with h2
            omega
          have hkl : k ≤ 1000 := by have := lt_of_some hk; have := HML.out; omega
          have HUN := Lib.hid hun
          have HST2 : Hid (rnStep (rnM ls K j) j l = rnStep (rnM ls K j) j l ∧ (rnStep (rnM ls K j) j l).out = (rnM ls K j).out.set j ⟨l.kind, l.gate, l.rank, (k : Int) + 1, l.sign, l.over⟩ ∧ RnInv met (rnStep (rnM ls K j) j l) K ∧ met.length ≤ j + 1) := ⟨rfl, by rw [hst], hin2, by have := HML.out; omega⟩
          have HKM := Lib.hid hk
          have HRV := HR2
          have HSV : Hid (SL w2.drew Am ml met) := HSM.out.below HB2.out.drew
          have HBV : Hid (Below w.heap.size w2 w2) := Below.refl _ _
          clear hk hun hst hin2
          obtain ⟨V, rfl⟩ : ∃ V, V = w2 := ⟨_, rfl⟩
          obtain ⟨met', rfl⟩ : ∃ met', met' = met := ⟨_, rfl⟩
          go_wp2_with fail
          obtain ⟨VK, hVK⟩ : ∃ VK : Nat, VK = gL := ⟨_, rfl⟩
          have HVC := Lib.hid (HBV.out.size)
          have hPv := heap_lt HRV.out.1
          have hrv := heap_lt HRV.out.2.1
          have hRv := heap_lt HRV.out.2.2.1
          have hDV := (HBV.out.cell (p := ⟨b, off + j * 6 + 3, none⟩) HBW.out).trans HD3.out
          have HDV := Lib.hid hDV
          have hbV : b < V.heap.size := Nat.lt_of_lt_of_le hb2l HVC.out
          have hkw : IntKind.i64.wrap ((k : Int) + 1) = (k : Int) + 1 := wrapI (by omega) (by omega)
          have hPg : P ≠ gL := by have := HGB.out; omega
          have hrg : r1 ≠ gL := by have := HGB.out; omega
          have hbg : b ≠ gL := by have := HGB.out; have := HBW.out; omega
          clear hVK a0 a1 a2 a3 hc3c hc3f
          go_region_held3 (fun w' => w'.cell? ⟨P, 1, none⟩ = some (.slice (some ⟨b, off, none⟩) n c) ∧ w'.cell? ⟨R, 1, none⟩ = some (.slice (some ⟨gL, 0, none⟩) n cv) ∧ w'.cell? ⟨b, off + j * 6 + 3, none⟩ = some (.int .i64 l.id) ∧
              w'.heap[P]? = some (.cells #[.int .i64 f, .slice (some ⟨b, off, none⟩) n c] 24 (0, 0)) ∧ w'.heap[R]? = some (.cells #[.int .i64 f, .slice (some ⟨gL, 0, none⟩) n cv] 24 (0, 0)) ∧ Below w.heap.size w w')
            (first
              | exact RrS.of HRV.out.1 HRV.out.2.2.1 HDV.out HRV.out.2.2.2.2.2.drew
              | exact RrS.of hP3 hR3 hD3 hw3'
              | exact RrS.of ((Below.heap_setCell _ _ _ P hPg).trans hP3) ((Below.heap_setCell _ _ _ R (fun e => hgR e.symm)).trans hR3) ((cell_heap_eq (Below.heap_setCell _ _ _ b hbg)).trans hD3) (hw3'.setCell (p := ⟨gL, j * 6 + 3, none⟩) (by show w.heap.size ≤ gL; have := HGB.out; omega) _))
            (first
              | (go_at_call 70; (with_reducible refine (at_calls Am ml cm met' l.id _ HSV.out hmb).mono ?_); rintro e w3 ⟨r, rfl, hr, hb⟩; obtain rfl := at_found HUN.out HKM.out hr; have hb' : Below V.heap.size V w3 := ((Below.refl V.heap.size V).drew).trans hb; have HR3 := Lib.hid (HRV.out.below hb'); have hP3 := HR3.out.1; have hR3 := HR3.out.2.2.1; have hw3' := HR3.out.2.2.2.2.2; have hD3 := (hb'.cell (p := ⟨b, off + j * 6 + 3, none⟩) hbV).trans HDV.out; have t2 := ownsRow_cell HR3.out.2.2.2.1 (HAT.out 3 _ rfl); have t20 : w3.cell? ⟨gL, j * 6 + 3, none⟩ = some (.int .i64 l.id) := t2.1; have t21 : w3.frozen? ⟨gL, j * 6 + 3, none⟩ = false := t2.2.1; clear hb t2))
          go_wp2_with fail
          go_roundw
          case rel =>
            have h1 := HR3.out.set (x := (k : Int) + 1) HOL.out hPg hrg (fun e => hgR e.symm) (by have := HGB.out; omega)
            have h2 : rnM ls K (j + 1) = rnStep (rnM ls K j) j l := HSTEP.out
            exact ⟨j + 1, met', by omega, by rw [Int.natCast_add]; rfl, HST2.out.2.2.2, by rw [h2]; exact HST2.out.2.2.1, by rw [h2, HST2.out.2.1]; exact h1⟩
          case measure => simp [intOf]; omega
        · have hlt0 : decide ((-1 : Int) < 0) = true := by decide
          obtain ⟨hst, hin2, hun⟩ := rn_new (j := j) HINV.out HK.out HKN.out hk
          obtain ⟨k, hkk⟩ : ∃ k, k = ml := ⟨_, rfl⟩
          have hkl : k ≤ 1000 := by have := HML.out; have := HMLE.out; omega
          have HUN : Hid (∀ k' : Nat, (met ++ [l.id])[k']? = some l.id → k' = k) := by rw [hkk, ← HMLE.out]; exact hun
          have HKM : Hid ((met ++ [l.id])[k]? = some l.id) := by unfold Hid; rw [hkk, ← HMLE.out, List.getElem?_append_right (Nat.le_refl _), Nat.sub_self]; rfl
          have HST2 : Hid (rnStep (rnM ls K j) j l = rnStep (rnM ls K j) j l ∧ (rnStep (rnM ls K j) j l).out = (rnM ls K j).out.set j ⟨l.kind, l.gate, l.rank, (k : Int) + 1, l.sign, l.over⟩ ∧ RnInv (met ++ [l.id]) (rnStep (rnM ls K j) j l) K ∧ (met ++ [l.id]).length ≤ j + 1) := ⟨rfl, by rw [hst, hkk, ← HMLE.out], hin2, by rw [List.length_append]; have := HML.out; simp; omega⟩
          have HMROW : Hid (∀ o, (w2.alloc o).ownsRow (w.heap.size + 3) 3 1 (.slice Am ml cm) ml (met.map (Value.int .i64))) := by
            intro o
            have h1 := HR2.out.2.2.2.2.1.below ((Below.refl w2.heap.size w2).alloc (Nat.le_refl _) o)
            unfold OwnV at h1
            rw [List.length_map, HMLE.out] at h1
            exact h1
          have hs2 := HR2.out.2.2.2.2.2.size
          have hR2l := heap_lt HR2.out.2.2.1
          have hw3 : w.heap.size + 3 ≤ w2.heap.size + 1 := by omega
          have HHK := Lib.hid hkk
          clear hk hun hst hin2 hkk
          go_wp2_with (first
            | (at_builtin; refine wpList_append_own_at _ rfl _ _ 35 rfl (w.heap.size + 3) 3 i0 (.int .i64 0) 1 8 Tryd.underlying35 hi hz0 hz1 hz2 rfl (by decide) (.slice Am ml cm) ml (met.map (Value.int .i64)) rfl (HMROW.out _) ⟨w2.heap.size, 0, none⟩ 1 1 [.int .i64 l.id] rfl rfl (cell_one_new _ _ _) (by intro u hu; rw [List.mem_singleton] at hu; subst hu; rfl) (by unfold maxLen; omega) (by omega) (by simp; omega) ?_; intro v5 V hown5 hgr5 _ _; have H5 := Lib.hid (And.intro hown5 hgr5); clear hown5 hgr5))
          have hrv5 := HR2.out.below ((Below.refl w2.heap.size w2).alloc (Nat.le_refl _) (.cells #[.int .i64 l.id] 3))
          have hown5 : OwnV V (w.heap.size + 3) 3 v5 ((met ++ [l.id]).map (Value.int .i64)) := by
            unfold OwnV
            rw [List.length_map, List.length_append, List.map_append, HMLE.out]
            exact H5.out.1
          have HRV := Lib.hid (hrv5.grown (HMROW.out _) H5.out.2 hown5)
          have HBV : Hid (Below w.heap.size w2 V) := ((Below.refl w.heap.size w2).alloc hs2 _).grown H5.out.2 (by simp; omega) (fun q hq => by have := (World.ownsRow.lt (HMROW.out (.cells #[.int .i64 l.id] 3)) q hq).1; omega)
          obtain ⟨Am5, cm5, hv5⟩ := own_form hown5
          obtain ⟨met', hmet'⟩ : ∃ met', met' = met ++ [l.id] := ⟨_, rfl⟩
          rw [← hmet'] at hv5 hown5 HST2 HKM HUN HRV
          rw [List.length_map] at hv5
          obtain ⟨ml5, hml5⟩ : ∃ ml5, met'.length = ml5 := ⟨_, rfl⟩
          rw [hml5] at hv5
          subst hv5
          have HSV : Hid (SL V.drew Am5 ml5 met') := SL.of_own (base := w.heap.size + 3) (e := 3) (c := cm5) (by unfold OwnV at hown5; rw [List.length_map, hml5] at hown5; exact hown5)
          have hmb5 : ml5 ≤ 1000000 := by have := HST2.out.2.2.2; omega
          clear hrv5 hown5 hmet' hml5
          obtain ⟨VK, hVK⟩ : ∃ VK : Nat, VK = gL := ⟨_, rfl⟩
          have HVC := Lib.hid (HBV.out.size)
          have hPv := heap_lt HRV.out.1
          have hrv := heap_lt HRV.out.2.1
          have hRv := heap_lt HRV.out.2.2.1
          have hDV := (HBV.out.cell (p := ⟨b, off + j * 6 + 3, none⟩) HBW.out).trans HD3.out
          have HDV := Lib.hid hDV
          have hbV : b < V.heap.size := Nat.lt_of_lt_of_le hb2l HVC.out
          have hkw : IntKind.i64.wrap ((k : Int) + 1) = (k : Int) + 1 := wrapI (by omega) (by omega)
          have hPg : P ≠ gL := by have := HGB.out; omega
          have hrg : r1 ≠ gL := by have := HGB.out; omega
          have hbg : b ≠ gL := by have := HGB.out; have := HBW.out; omega
          clear hVK a0 a1 a2 a3 hc3c hc3f
          go_region_held3 (fun w' => w'.cell? ⟨P, 1, none⟩ = some (.slice (some ⟨b, off, none⟩) n c) ∧ w'.cell? ⟨R, 1, none⟩ = some (.slice (some ⟨gL, 0, none⟩) n cv) ∧ w'.cell? ⟨b, off + j * 6 + 3, none⟩ = some (.int .i64 l.id) ∧
              w'.heap[P]? = some (.cells #[.int .i64 f, .slice (some ⟨b, off, none⟩) n c] 24 (0, 0)) ∧ w'.heap[R]? = some (.cells #[.int .i64 f, .slice (some ⟨gL, 0, none⟩) n cv] 24 (0, 0)) ∧ Below w.heap.size w w')
            (first
              | exact RrS.of HRV.out.1 HRV.out.2.2.1 HDV.out HRV.out.2.2.2.2.2.drew
              | exact RrS.of hP3 hR3 hD3 hw3'
              | exact RrS.of ((Below.heap_setCell _ _ _ P hPg).trans hP3) ((Below.heap_setCell _ _ _ R (fun e => hgR e.symm)).trans hR3) ((cell_heap_eq (Below.heap_setCell _ _ _ b hbg)).trans hD3) (hw3'.setCell (p := ⟨gL, j * 6 + 3, none⟩) (by show w.heap.size ≤ gL; have := HGB.out; omega) _))
            (first
              | (go_at_call 70; (with_reducible refine (at_calls Am5 ml5 cm5 met' l.id _ HSV.out hmb5).mono ?_); rintro e w3 ⟨r, rfl, hr, hb⟩; obtain rfl := at_found HUN.out HKM.out hr; have hb' : Below V.heap.size V w3 := ((Below.refl V.heap.size V).drew).trans hb; have HR3 := Lib.hid (HRV.out.below hb'); have hP3 := HR3.out.1; have hR3 := HR3.out.2.2.1; have hw3' := HR3.out.2.2.2.2.2; have hD3 := (hb'.cell (p := ⟨b, off + j * 6 + 3, none⟩) hbV).trans HDV.out; have t2 := ownsRow_cell HR3.out.2.2.2.1 (HAT.out 3 _ rfl); have t20 : w3.cell? ⟨gL, j * 6 + 3, none⟩ = some (.int .i64 l.id) := t2.1; have t21 : w3.frozen? ⟨gL, j * 6 + 3, none⟩ = false := t2.2.1; clear hb t2))
          go_wp2_with fail
          go_roundw
          case rel =>
            have h1 := HR3.out.set (x := (k : Int) + 1) HOL.out hPg hrg (fun e => hgR e.symm) (by have := HGB.out; omega)
            have h2 : rnM ls K (j + 1) = rnStep (rnM ls K j) j l := HSTEP.out
            exact ⟨j + 1, met', by omega, by rw [Int.natCast_add]; rfl, HST2.out.2.2.2, by rw [h2]; exact HST2.out.2.2.1, by rw [h2, HST2.out.2.1]; exact h1⟩
          case measure => simp [intOf]; omega
      · have hke : (l.kind != 2) = true := by rw [bne_iff_ne]; exact hk
        have HK := Lib.hid hk
        clear hk
        go_wp2_with fail
        go_roundw
        case rel =>
          have e : rnM ls K (j + 1) = rnM ls K j := by rw [HSTEP.out]; unfold rnStep; rw [if_neg HK.out]
          exact ⟨j + 1, met, by omega, by rw [Int.natCast_add]; rfl, by have := HML.out; omega, by rw [e]; exact HINV.out, by rw [e]; exact HRR.out⟩
        case measure => simp [intOf]; omega
    · obtain rfl : j = n := by omega
      have z0 := Lib.cell_of_heap q2 0
      have z1 := Lib.cell_of_heap q2 1
      have zf : ∀ k, wr.frozen? ⟨r1, k, none⟩ = false := fun k => by simp [World.frozen?, q2]
      clear q1 q2 q3 q4 q5 q6
      go_wp2_with fail
      obtain ⟨X, hX⟩ : ∃ X, X = (wr.setCell ⟨r1, 0, none⟩ (.int .i64 f)).setCell ⟨r1, 1, none⟩ (.slice Av j cv) := ⟨_, rfl⟩
      obtain ⟨k0, k1, hXB, _, hXK⟩ := res_end HRR.out.2.1 hwr1 HRR.out.2.2.2.2.2 _ _ hX
      rw [← hX]
      refine bodyPost_ret (v := .agg #[.int .i64 f, .slice Av j cv]) (by simp [results, Tryd.results26, go_sem, k0, k1]) rfl ⟨Av, cv, rfl, ?_, hXB⟩
      have h1 := own_kept2' HRR.out.2.2.2.1 (w' := X) (fun g e => hXK g (by have := (World.ownsRow.lt HRR.out.2.2.2.1 g e).1; omega))
      rw [← HRL.out] at h1
      exact own_base' h1 (by omega)

end Go.Proofs.YtjdabkniojmacaaDoor
