/-
  The walk of the map's method paired.
-/
import Derived.Test.YtbbpockkafbfmaaDoorOrdd
import Derived.Maps.OwnSet
import Derived.Laws.StructEq
import Derived.Deep.RegionHeld3
namespace Go.Proofs.YtbbpockkafbfmaaDoor
open Go.RowKit Go.Maps

theorem keyedInt : Keyed Tryd.prog 3 := int_keyed Tryd.underlying3
theorem zeroInt (w : World) : (zeroValue 3).run Tryd.prog w = .ok (.int .i64 0) w := by kernel_rfl
theorem wf_of_I64 {x : Int} (h : I64 x) : (Lit.int .i64 x).wf = true := by
  obtain ⟨h1, h2⟩ := h
  exact WalkArith.wf_i64 (by omega)

instance : DecidableEq Lt := fun a b => decidable_of_iff (a.kind = b.kind ∧ a.gate = b.gate ∧ a.rank = b.rank ∧ a.id = b.id ∧ a.sign = b.sign ∧ a.over = b.over)
  ⟨fun ⟨h1, h2, h3, h4, h5, h6⟩ => by cases a; cases b; simp_all, fun h => by subst h; exact ⟨rfl, rfl, rfl, rfl, rfl, rfl⟩⟩

/-- What paired notes: the first visit of each ID, the other visit of each letter. -/
structure PairS where
  vis : Int → Option Nat
  ot : List Nat
def pairStep (ls : List Lt) (xc : Int) (st : PairS) (i : Nat) (l : Lt) : Option PairS :=
  if l.kind = 2 then
    match st.vis l.id with
    | some f => if st.ot[f]? = some 0 ∧ ls[f]? = some (otherL l) then some ⟨st.vis, (st.ot.set f i).set i f⟩ else none
    | none => if 1 ≤ l.id ∧ l.id ≤ xc then some ⟨fun x => if x = l.id then some i else st.vis x, st.ot⟩ else none
  else some st
def pairM (ls : List Lt) (xc : Int) (n : Nat) : Nat → Option PairS
  | 0 => some ⟨fun _ => none, List.replicate n 0⟩
  | j + 1 => (pairM ls xc n j).bind fun st => match ls[j]? with
    | some l => pairStep ls xc st j l
    | none => some st
theorem pairM_succ {ls : List Lt} {xc : Int} {n j : Nat} {st : PairS} {l : Lt} (h : pairM ls xc n j = some st) (hl : ls[j]? = some l) : pairM ls xc n (j + 1) = pairStep ls xc st j l := by
  rw [pairM, h, Option.bind_some, hl]
theorem pairM_none {ls : List Lt} {xc : Int} {n j : Nat} (h : pairM ls xc n j = none) : ∀ k, j ≤ k → pairM ls xc n k = none := by
  intro k hk
  obtain ⟨d, rfl⟩ := Nat.exists_eq_add_of_le hk
  induction d with
  | zero => exact h
  | succ d ih => rw [← Nat.add_assoc, pairM, ih (by omega), Option.bind_none]
theorem pairM_vis {ls : List Lt} {xc : Int} {n : Nat} : ∀ {j : Nat} {st : PairS}, pairM ls xc n j = some st → ∀ x f, st.vis x = some f → f < j
  | 0, st, h, x, f, hx => by
    rw [pairM] at h
    injection h with h
    subst h
    cases hx
  | j + 1, st, h, x, f, hx => by
    rw [pairM] at h
    cases h0 : pairM ls xc n j with
    | none => rw [h0] at h; cases h
    | some s0 =>
      rw [h0, Option.bind_some] at h
      have ih := pairM_vis h0 x f
      cases hl : ls[j]? with
      | none => rw [hl] at h; injection h with h; subst h; have := ih hx; omega
      | some l =>
        rw [hl] at h
        simp only [pairStep] at h
        split at h
        · split at h
          · split at h
            · injection h with h; subst h; have := ih hx; omega
            · cases h
          · split at h
            · injection h with h; subst h
              dsimp only at hx
              split at hx
              · injection hx with hx; omega
              · have := ih hx; omega
            · cases h
        · injection h with h; subst h; have := ih hx; omega

/-- The map's datum says the visits. -/
def DRel (Dm : DataW Unit) (vis : Int → Option Nat) : Prop :=
  IsMap Dm ∧ ∀ x, (vis x = none → Maps.has Dm (.int .i64 x) = false) ∧ (∀ f, vis x = some f → Maps.has Dm (.int .i64 x) = true ∧ ∀ z, Dm.atKey (.int .i64 x) z = .lit (.int .i64 (f : Int)))

theorem DRel.empty : DRel (.map []) (fun _ => none) :=
  ⟨isMap_empty, fun x => ⟨fun _ => rfl, fun f h => by cases h⟩⟩
theorem isKey_int (x : Int) : WideAt.IsKeyLit (.int .i64 x) := by simp [WideAt.IsKeyLit]
theorem DRel.put {Dm : DataW Unit} {vis : Int → Option Nat} (h : DRel Dm vis) (id : Int) (i : Nat) :
    DRel (Dm.put (.int .i64 id) (.lit (.int .i64 (i : Int)))) (fun x => if x = id then some i else vis x) := by
  refine ⟨h.1.put _ _, fun x => ⟨fun hx => ?_, fun f hx => ?_⟩⟩
  · dsimp only at hx
    by_cases e : x = id
    · rw [if_pos e] at hx; cases hx
    · rw [if_neg e] at hx
      rw [has_put_other (by intro c; injection c with _ c; exact e c)]
      exact (h.2 x).1 hx
  · dsimp only at hx
    by_cases e : x = id
    · subst e
      rw [if_pos rfl] at hx
      injection hx with hx
      subst hx
      exact ⟨has_put_same h.1 (isKey_int _) _, fun z => atKey_put_same h.1 (isKey_int _) _ z⟩
    · rw [if_neg e] at hx
      have hne : (Lit.int .i64 x) ≠ .int .i64 id := by intro c; injection c with _ c; exact e c
      rw [has_put_other hne]
      exact ⟨((h.2 x).2 f hx).1, fun z => by rw [atKey_put_other hne]; exact ((h.2 x).2 f hx).2 z⟩

/-- What paired leaves. -/
def PairedPost (ls : List Lt) (xc : Int) (n P : Nat) (f : Int) (vL vA vX vS : Value) (w : World) (e : Ending) (w' : World) : Prop :=
  Below P w w' ∧ (∀ k, k < w.heap.size → k ≠ P → w'.heap[k]? = w.heap[k]?) ∧
  ((pairM ls xc n n = none ∧ e = .returned (.bool false)) ∨
   ∃ st o, pairM ls xc n n = some st ∧ e = .returned (.bool true) ∧ w.heap.size ≤ o ∧ DiaB w' P f vL vA vX vS (.slice (some ⟨o, 0, none⟩) n n) ∧
     OwnV w' o 3 (.slice (some ⟨o, 0, none⟩) n n) (st.ot.map intV))
def PaRel (ls : List Lt) (xc : Int) (n P o mb : Nat) (f : Int) (vL vA vX vS : Value) (w : World) (iv : Value) (wr : World) : Prop :=
  ∃ j st Dm, j ≤ n ∧ iv = .int .i64 (j : Int) ∧ pairM ls xc n j = some st ∧ DRel Dm st.vis ∧ wr.ownsMap Tryd.prog 3 (plainElem (H := Unit) Tryd.prog 3) mb j Dm ∧
    DiaB wr P f vL vA vX vS (.slice (some ⟨o, 0, none⟩) n n) ∧ OwnV wr o 3 (.slice (some ⟨o, 0, none⟩) n n) (st.ot.map intV) ∧ (∀ k, k < w.heap.size → k ≠ P → wr.heap[k]? = w.heap[k]?) ∧ Below P w wr
theorem ownsMap_kept {w w' : World} {k : TypeId} {R : Value → Option (DataW Unit × List MemPlace)} {b n : Nat} {Dm : DataW Unit} (h : w.ownsMap Tryd.prog k R b n Dm) (hk : w'.heap[b]? = w.heap[b]?) : w'.ownsMap Tryd.prog k R b n Dm := by
  obtain ⟨es, clock, hb, r⟩ := h
  exact ⟨es, clock, hk.trans hb, r⟩
theorem run_makeMapH (x : Int) (w : World) : (Instr.makeMap 129 (some (.int .i64 x))).run Tryd.prog w = .ok (.map (some w.heap.size)) (w.alloc (.map #[] 0)) := by kernel_rfl

theorem crossings_wide (f : Int) (A : Option Addr) (n cap : Nat) (ls : List Lt) (w : World) (h : LS w A n ls) (hn : n ≤ 9223372036854775807) :
    Calls Tryd.prog 18 #[.agg #[.int .i64 f, .slice A n cap]] w fun e w' => e = .returned (.int .i64 (cntK 2 ls / 2)) ∧ Below w.heap.size w w' := by
  have HC0 := Lib.hid (fun W (h : LS W A n ls) => count_wide f A n cap ls 2 W h hn)
  have HC := Lib.hid (HC0.out _ (h.below ((Below.refl _ _).alloc (Nat.le_refl _) (.cells #[.int .i64 f, .slice A n cap] 33))))
  clear HC0
  have b0 := cntK_nonneg 2 ls
  have b1 : cntK 2 ls ≤ n := by
    have h1 := cntK_take_le 2 ls n
    rw [List.take_of_length_le (by rw [h.1]; omega)] at h1
    exact h1
  obtain ⟨x, hx⟩ : ∃ x, cntK 2 ls = x := ⟨_, rfl⟩
  rw [hx] at HC b0 b1 ⊢
  clear hx h
  go_enter Tryd.func18, Tryd.ntmps18
  go_wp2_with fail
  refine HC.out.mono ?_
  rintro e w1 ⟨rfl, hb1⟩
  go_wp2_with fail
  go_ret
  exact ⟨rfl, ((Below.refl w.heap.size w).alloc (Nat.le_refl _) _).trans (hb1.mono (by simp))⟩
theorem crossings_calls (f : Int) (A : Option Addr) (n cap : Nat) (ls : List Lt) (w : World) (h : LS w A n ls) (hn : n ≤ 1000000) :
    Calls Tryd.prog 18 #[.agg #[.int .i64 f, .slice A n cap]] w fun e w' => e = .returned (.int .i64 (cntK 2 ls / 2)) ∧ Below w.heap.size w w' :=
  crossings_wide f A n cap ls w h (by omega)

/-- What the comparison of two visits reads. -/
def PairR (P o b B ff off : Nat) (vO vL : Value) (ov : Int) (a : Lt) (lg lr li lsg : Int) (lo : Bool) (W1 w' : World) : Prop :=
  w'.cell? ⟨P, 5, none⟩ = some vO ∧ w'.cell? ⟨P, 1, none⟩ = some vL ∧ w'.cell? ⟨o, ff, none⟩ = some (.int .i64 ov) ∧
  w'.cell? ⟨b, off + ff * 6, none⟩ = some (.int .i64 a.kind) ∧ w'.cell? ⟨b, off + ff * 6 + 1, none⟩ = some (.int .i64 a.gate) ∧ w'.cell? ⟨b, off + ff * 6 + 2, none⟩ = some (.int .i64 a.rank) ∧
  w'.cell? ⟨b, off + ff * 6 + 3, none⟩ = some (.int .i64 a.id) ∧ w'.cell? ⟨b, off + ff * 6 + 4, none⟩ = some (.int .i64 a.sign) ∧ w'.cell? ⟨b, off + ff * 6 + 5, none⟩ = some (.bool a.over) ∧
  w'.cell? ⟨B, 0, none⟩ = some (.int .i64 2) ∧ w'.cell? ⟨B, 1, none⟩ = some (.int .i64 lg) ∧ w'.cell? ⟨B, 2, none⟩ = some (.int .i64 lr) ∧
  w'.cell? ⟨B, 3, none⟩ = some (.int .i64 li) ∧ w'.cell? ⟨B, 4, none⟩ = some (.int .i64 lsg) ∧ w'.cell? ⟨B, 5, none⟩ = some (.bool lo) ∧ Below W1.heap.size W1 w'
theorem PairR.of {P o b B ff off : Nat} {vO vL : Value} {ov : Int} {a : Lt} {lg lr li lsg : Int} {lo : Bool} {W1 w' : World} (h : PairR P o b B ff off vO vL ov a lg lr li lsg lo W1 W1)
    (hP : P < W1.heap.size) (ho : o < W1.heap.size) (hb : b < W1.heap.size) (hB : B < W1.heap.size) (hw : Below W1.heap.size W1 w') : PairR P o b B ff off vO vL ov a lg lr li lsg lo W1 w' := by
  obtain ⟨h1, h2, h3, h4, h5, h6, h7, h8, h9, h10, h11, h12, h13, h14, h15, _⟩ := h
  have e : ∀ q x, q < W1.heap.size → w'.cell? ⟨q, x, none⟩ = W1.cell? ⟨q, x, none⟩ := fun q x hq => hw.cell (p := ⟨q, x, none⟩) hq
  exact ⟨(e _ _ hP).trans h1, (e _ _ hP).trans h2, (e _ _ ho).trans h3, (e _ _ hb).trans h4, (e _ _ hb).trans h5, (e _ _ hb).trans h6, (e _ _ hb).trans h7, (e _ _ hb).trans h8, (e _ _ hb).trans h9,
    (e _ _ hB).trans h10, (e _ _ hB).trans h11, (e _ _ hB).trans h12, (e _ _ hB).trans h13, (e _ _ hB).trans h14, (e _ _ hB).trans h15, hw⟩
theorem PairR.next {P o b B ff off : Nat} {vO vL : Value} {ov : Int} {a : Lt} {lg lr li lsg : Int} {lo : Bool} {W1 w' w2 : World} (h : PairR P o b B ff off vO vL ov a lg lr li lsg lo W1 W1)
    (hP : P < W1.heap.size) (ho : o < W1.heap.size) (hb : b < W1.heap.size) (hB : B < W1.heap.size) (h' : PairR P o b B ff off vO vL ov a lg lr li lsg lo W1 w') (hw : Below w'.heap.size w' w2) : PairR P o b B ff off vO vL ov a lg lr li lsg lo W1 w2 := by
  obtain ⟨_, _, _, _, _, _, _, _, _, _, _, _, _, _, _, k⟩ := h'
  exact h.of hP ho hb hB (k.trans (hw.mono k.size))

theorem PairR.last {P o b B ff off : Nat} {vO vL : Value} {ov : Int} {a : Lt} {lg lr li lsg : Int} {lo : Bool} {W1 w' : World} (h : PairR P o b B ff off vO vL ov a lg lr li lsg lo W1 w') : Below W1.heap.size W1 w' := by
  obtain ⟨_, _, _, _, _, _, _, _, _, _, _, _, _, _, _, k⟩ := h
  exact k

set_option maxHeartbeats 4000000 in
set_option maxRecDepth 100000 in
theorem paired_calls (P : Nat) (f : Int) (A : Option Addr) (n c : Nat) (ls : List Lt) (vA vX vS vO : Value) (w : World) (h : DiaB w P f (.slice A n c) vA vX vS vO) (hL : LS w A n ls) (hbP : ∀ b off, A = some ⟨b, off, none⟩ → b ≠ P) (hn : n ≤ 1000)
    (hid : ∀ l, l ∈ ls → I64 l.id) :
    Calls Tryd.prog 81 #[.pointer (some ⟨P, 0, none⟩)] w (PairedPost ls (cntK 2 ls / 2) n P f (.slice A n c) vA vX vS w) := by
  have HD := Lib.hid h
  have HLS := Lib.hid hL
  have HL := Lib.hid hL.1
  have HBP := Lib.hid hbP
  have HID := Lib.hid hid
  have HCR := Lib.hid (crossings_calls f A n c ls w hL (by omega))
  obtain ⟨hP, p0, p1, p2, p3, p4, p5⟩ := h.dia
  obtain ⟨xc, hxc⟩ : ∃ xc, cntK 2 ls / 2 = xc := ⟨_, rfl⟩
  have hxb : 0 ≤ xc ∧ xc ≤ 1000 := by
    have h0 := cntK_nonneg 2 ls
    have h1 := cntK_take_le 2 ls n
    rw [List.take_of_length_le (by rw [hL.1]; omega)] at h1
    omega
  obtain ⟨hx0, hx1⟩ := hxb
  rw [hxc] at HCR ⊢
  have HPP := Lib.hid hP
  have hmm := run_makeMapH xc
  clear hxc hid hL h hbP
  go_enter Tryd.func81, Tryd.ntmps81
  go_wp2_with fail
  refine HCR.out.mono ?_
  rintro e w1 ⟨rfl, hb1⟩
  have HB1 := Lib.hid hb1
  have HD1 := Lib.hid (HD.out.kept (hb1.block P hP))
  obtain ⟨r, r0, r1, r2, r3, r4, r5⟩ := HD1.out.dia
  have f5 := HD1.out.frozen 5
  clear hb1 p0 p1 p2 p3 p4 p5 hP
  go_wp2_with (first
    | (at_make; refine wpList_make_intsV rfl _ _ rfl n _ rfl rfl rfl (by omega) ?_; intro w2 hown2 hb2; have HO2 := Lib.hid hown2; have HB2 := Lib.hid hb2; have HD2 := Lib.hid (HD1.out.kept (hb2.block P r)); have f5 := HD2.out.frozen 5; obtain ⟨s, s0, s1, s2, s3, s4, s5⟩ := HD2.out.dia; clear hown2 hb2))
  have l1 : w1.heap.size < w2.heap.size := (HO2.out.lt _ rfl).2
  obtain ⟨o, ho⟩ : ∃ o, o = w1.heap.size := ⟨_, rfl⟩
  obtain ⟨mb, hmb⟩ : ∃ mb, mb = w2.heap.size := ⟨_, rfl⟩
  have hw1 := HB1.out.size
  have HLT : Hid (P < w.heap.size ∧ w.heap.size ≤ o ∧ o < mb) := ⟨HPP.out, by omega, by omega⟩
  obtain ⟨W3, hW3⟩ : ∃ W3, W3 = (w2.setCell ⟨P, 5, none⟩ (.slice (some ⟨o, 0, none⟩) n n)).alloc (.map #[] 0) := ⟨_, rfl⟩
  have HST : Hid (PaRel ls xc n P o mb f (.slice A n c) vA vX vS w (.int .i64 0) W3) := by
    obtain ⟨o1, o2, o3⟩ := HLT.out
    have hk5 : ∀ k, k < w2.heap.size → k ≠ P → W3.heap[k]? = w2.heap[k]? := fun k h1 h2 => by
      rw [hW3]
      exact (((Below.refl (w2.setCell ⟨P, 5, none⟩ (.slice (some ⟨o, 0, none⟩) n n)).heap.size _).alloc (Nat.le_refl _) (.map #[] 0)).block k (by simpa using h1)).trans (Below.heap_setCell w2 ⟨P, 5, none⟩ _ k h2)
    have b2 : Below P w w2 := (HB1.out.mono (by omega)).trans (HB2.out.mono (by omega))
    refine ⟨0, _, _, Nat.zero_le _, rfl, rfl, DRel.empty, ?_, ?_, ?_, ?_, ?_⟩
    · have h1 := World.ownsMap_made (H := Unit) (w2.setCell ⟨P, 5, none⟩ (.slice (some ⟨o, 0, none⟩) n n)) Tryd.prog 3 (plainElem (H := Unit) Tryd.prog 3)
      have e5 : ∀ v, (w2.setCell ⟨P, 5, none⟩ v).heap.size = w2.heap.size := fun v => by simp
      rw [e5, ← hmb, ← hW3] at h1
      exact h1
    · rw [hW3]
      have h1 := (HD2.out.setO (.slice (some ⟨o, 0, none⟩) n n))
      exact h1.kept (((Below.refl _ _).alloc (Nat.le_refl _) (.map #[] 0)).block P (by simp; omega))
    · have h1 := HO2.out.kept (hk5 w1.heap.size (by omega) (by omega))
      rw [← ho] at h1
      rw [List.map_replicate]
      exact h1
    · exact fun k h1 h2 => (hk5 k (by omega) h2).trans ((HB2.out.block k (by omega)).trans (HB1.out.block k h1))
    · rw [hW3]
      exact (b2.setCell (p := ⟨P, 5, none⟩) (Nat.le_refl _) _).alloc (by simp; omega) _
  rw [← ho, ← hW3, ← hmb]
  clear HO2 HB2 HD2 HD1 HB1 hW3 ho hmb l1 s s0 s1 s2 s3 s4 s5 f5 hmm hw1
  have HKW := keyedInt
  go_loopw [32] (fun iv wr => PaRel ls xc n P o mb f (.slice A n c) vA vX vS w iv wr) (fun iv _ => n - (intOf iv).toNat)
  case atStart => exact HST.out
  case round =>
    obtain ⟨k, st, Dm, hk, rfl, hst, hdr, hmo, hdia, hoo, hkeep, hbel⟩ := hrel
    obtain ⟨o1, o2, o3⟩ := HLT.out
    have HLR := Lib.hid (HLS.out.kept2 hbel.size (fun b off e hb => hkeep b hb (HBP.out b off e)))
    have HSTE := Lib.hid hst
    have HDR := Lib.hid hdr
    have HMO := Lib.hid hmo
    have HDJ := Lib.hid hdia
    have HOO := Lib.hid hoo
    have HKE := Lib.hid hkeep
    have HBE := Lib.hid hbel
    obtain ⟨hPr, p0, p1, p2, p3, p4, p5⟩ := hdia.dia
    have hml : mb < wr.heap.size := hmo.lt
    have hbe := hbel.size
    clear hst hdr hmo hdia hoo hkeep hbel
    by_cases hlt : k < n
    · obtain ⟨b, off, l, rfl, hbl, hl, c0, c1, c2, c3, c4, c5⟩ := HLR.out.at_ hlt
      have hk1 : (k : Int) < n := by omega
      by_cases hkd : l.kind = 2
      · have hke : (l.kind == 2) = true := by rw [beq_iff_eq]; exact hkd
        have HWF := Lib.hid (wf_of_I64 (HID.out l (List.mem_of_getElem? hl)))
        have HKEY : Hid (keyOf Tryd.prog 3 (.int .i64 l.id) = some (.int .i64 l.id)) := keyOf_int_mk Tryd.underlying3 HWF.out
        have HSTEP : Hid (∀ r, pairStep ls xc st k l = r → pairM ls xc n (k + 1) = r) := fun r hr => (pairM_succ HSTE.out hl).trans hr
        have HNO : Hid (pairStep ls xc st k l = none → pairM ls xc n n = none) := fun h => pairM_none (HSTEP.out _ h) n (by omega)
        have HPS : Hid (pairStep ls xc st k l = match st.vis l.id with
          | some f => if st.ot[f]? = some 0 ∧ ls[f]? = some (otherL l) then some ⟨st.vis, (st.ot.set f k).set k f⟩ else none
          | none => if 1 ≤ l.id ∧ l.id ≤ xc then some ⟨fun x => if x = l.id then some k else st.vis x, st.ot⟩ else none) := by
          unfold Hid pairStep
          rw [if_pos hkd]
        have HV := Lib.hid (HDR.out.2 l.id)
        cases hv : st.vis l.id with
        | none =>
          have HH := Lib.hid (HV.out.1 hv)
          have HPS2 := HPS.out
          rw [hv] at HPS2
          clear hl hkd
          by_cases h1r : 1 ≤ l.id
          · by_cases hrc : l.id ≤ xc
            · have HNX := Lib.hid (HSTEP.out _ HPS2)
              rw [if_pos ⟨h1r, hrc⟩] at HNX
              have HREL : Hid (∀ ob wm, wm.ownsMap Tryd.prog 3 (plainElem (H := Unit) Tryd.prog 3) mb (k + 1) (Dm.put (.int .i64 l.id) (.lit (.int .i64 (k : Int)))) → (wr.alloc ob).grownBy wm (some mb) →
                  PaRel ls xc n P o mb f (.slice (some ⟨b, off, none⟩) n c) vA vX vS w (.int .i64 ((k : Int) + 1)) wm) := by
                intro ob wm hmm hgr
                have hba : Below wr.heap.size wr (wr.alloc ob) := (Below.refl _ _).alloc (Nat.le_refl _) _
                have hsa := hba.size
                have kall : ∀ q, q < wr.heap.size → q ≠ mb → wm.heap[q]? = wr.heap[q]? := fun q h0 h1 => (hgr.block q (by omega) (by intro e; injection e with e; exact h1 e)).trans (hba.block q h0)
                refine ⟨k + 1, _, _, by omega, by rw [Int.natCast_add]; rfl, HNX.out, HDR.out.put l.id k, hmm, HDJ.out.kept (kall P hPr (by omega)), HOO.out.kept (kall o (by omega) (by omega)), fun q h1 h2 => (kall q (by omega) (by omega)).trans (HKE.out q h1 h2), ?_⟩
                exact (HBE.out.alloc (by omega) ob).grown hgr (by have := hbe; simp; omega) (fun j hj => by cases hj; omega)
              clear HPS2
              go_wp2_with (first
                | (at_lookup; refine wpList_lookup_own_ok_int _ rfl _ _ 129 rfl 3 3 .i64 keyedInt Tryd.underlying129 Tryd.underlying3 (zeroInt _) mb k Dm rfl (HMO.out.alloc _) _ _ rfl HKEY.out ?_; intro cc hat hwc; rw [HH.out])
                | (at_mapUpdate; refine wpList_mapUpdate_own _ rfl _ _ _ 129 rfl 3 3 keyedInt Tryd.underlying129 _ mb k Dm rfl (HMO.out.alloc _) (by unfold maxLen; omega) _ _ _ rfl rfl HKEY.out _ [] (plainElem_int Tryd.underlying3 (WalkArith.wf_i64 (by omega))) ?_; intro wm hown1 hgrow1))
              go_roundw
              case rel => exact HREL.out _ _ hown1 hgrow1
              case measure => simp [intOf]; omega
            · have HE := Lib.hid (HNO.out (by rw [HPS2, if_neg (fun e => hrc e.2)]))
              clear HPS2
              go_wp2_with (first
                | (at_lookup; refine wpList_lookup_own_ok_int _ rfl _ _ 129 rfl 3 3 .i64 keyedInt Tryd.underlying129 Tryd.underlying3 (zeroInt _) mb k Dm rfl (HMO.out.alloc _) _ _ rfl HKEY.out ?_; intro cc hat hwc; rw [HH.out]))
              go_ret
              exact ⟨HBE.out.alloc (by omega) _, fun q h1 h2 => (((Below.refl wr.heap.size wr).alloc (Nat.le_refl _) _).block q (by omega)).trans (HKE.out q h1 h2), .inl ⟨HE.out, rfl⟩⟩
          · have HE := Lib.hid (HNO.out (by rw [HPS2, if_neg (fun e => h1r e.1)]))
            clear HPS2
            go_wp2_with (first
              | (at_lookup; refine wpList_lookup_own_ok_int _ rfl _ _ 129 rfl 3 3 .i64 keyedInt Tryd.underlying129 Tryd.underlying3 (zeroInt _) mb k Dm rfl (HMO.out.alloc _) _ _ rfl HKEY.out ?_; intro cc hat hwc; rw [HH.out]))
            go_ret
            exact ⟨HBE.out.alloc (by omega) _, fun q h1 h2 => (((Below.refl wr.heap.size wr).alloc (Nat.le_refl _) _).block q (by omega)).trans (HKE.out q h1 h2), .inl ⟨HE.out, rfl⟩⟩
        | some ff =>
          have hff := pairM_vis HSTE.out l.id ff hv
          have hffn : ff < n := by omega
          have HH := Lib.hid ((HV.out.2 ff hv).1)
          have HA := Lib.hid ((HV.out.2 ff hv).2 (.lit (.int .i64 0)))
          have HPS2 := HPS.out
          rw [hv] at HPS2
          obtain ⟨b', off', a, hA', _, ha, a0, a1, a2, a3, a4, a5⟩ := HLR.out.at_ hffn
          obtain ⟨rfl, rfl⟩ : b = b' ∧ off = off' := by injection hA' with hA'; injection hA' with e1 e2; exact ⟨e1, e2⟩
          obtain ⟨ov0, hov, hoc, hof, _, hos⟩ := HOO.out.cell (k := ff) hffn
          obtain ⟨ov, hovn, rfl⟩ : ∃ ov : Nat, st.ot[ff]? = some ov ∧ ov0 = .int .i64 (ov : Int) := by
            rw [List.getElem?_map] at hov
            cases hh : st.ot[ff]? with
            | none => rw [hh] at hov; cases hov
            | some x => rw [hh] at hov; injection hov with hov; exact ⟨x, rfl, hov.symm⟩
          obtain ⟨yv, hyv, hyc, hyf, _, hys⟩ := HOO.out.cell (k := k) hlt
          dsimp only at HPS2
          rw [ha, hovn] at HPS2
          have HOT0 := fun W => otherStrand_calls l W
          have hOE : otherL l = ⟨2, l.gate, l.rank, l.id, l.sign, !l.over⟩ := by unfold otherL; simp [hkd]
          rw [hOE] at HOT0 HPS2
          simp only [Lt.val] at HOT0
          rw [hkd] at HOT0 c0
          have HOT := Lib.hid HOT0
          have HPSH := Lib.hid HPS2
          obtain ⟨lg, hlg⟩ : ∃ x, l.gate = x := ⟨_, rfl⟩
          obtain ⟨lr, hlr⟩ : ∃ x, l.rank = x := ⟨_, rfl⟩
          obtain ⟨li, hli⟩ : ∃ x, l.id = x := ⟨_, rfl⟩
          obtain ⟨lsg, hlsg⟩ : ∃ x, l.sign = x := ⟨_, rfl⟩
          obtain ⟨lo, hlo⟩ : ∃ x, l.over = x := ⟨_, rfl⟩
          rw [hlg] at c1 HOT HPSH
          rw [hlr] at c2 HOT HPSH
          rw [hli] at c3 HOT HKEY HH HA
          rw [hli] at HPSH
          rw [hlsg] at c4 HOT HPSH
          rw [hlo] at c5 HOT HPSH
          clear hl hkd HPS2 HOT0 hOE hlg hlr hlsg hlo hov hyv ha hA' hovn hke
          have HM := Lib.hid (⟨p5, p1, hoc, a0, a1, a2, a3, a4, a5⟩ : wr.cell? ⟨P, 5, none⟩ = some (.slice (some ⟨o, 0, none⟩) n n) ∧ wr.cell? ⟨P, 1, none⟩ = some (.slice (some ⟨b, off, none⟩) n c) ∧ wr.cell? ⟨o, ff, none⟩ = some (.int .i64 (ov : Int)) ∧
            wr.cell? ⟨b, off + ff * 6, none⟩ = some (.int .i64 a.kind) ∧ wr.cell? ⟨b, off + ff * 6 + 1, none⟩ = some (.int .i64 a.gate) ∧ wr.cell? ⟨b, off + ff * 6 + 2, none⟩ = some (.int .i64 a.rank) ∧
            wr.cell? ⟨b, off + ff * 6 + 3, none⟩ = some (.int .i64 a.id) ∧ wr.cell? ⟨b, off + ff * 6 + 4, none⟩ = some (.int .i64 a.sign) ∧ wr.cell? ⟨b, off + ff * 6 + 5, none⟩ = some (.bool a.over))
          have hffi : (ff : Int) < n := by omega
          go_wp2_with (first
            | (at_lookup; refine wpList_lookup_own_ok_int _ rfl _ _ 129 rfl 3 3 .i64 keyedInt Tryd.underlying129 Tryd.underlying3 (zeroInt _) mb k Dm rfl (HMO.out.alloc _) _ _ rfl HKEY.out ?_; intro cc hat hwc; rw [HH.out]; obtain rfl : cc = (ff : Int) := (by rw [HA.out] at hat; injection hat with hat; injection hat with _ hat; exact hat.symm); clear hat hwc))
          clear c0 c1 c2 c3 c4 c5 a0 a1 a2 a3 a4 a5 p0 p1 p2 p3 p4 p5 hoc hof
          obtain ⟨W1, hW1⟩ : ∃ W1, W1 = wr.alloc (.cells #[.int .i64 2, .int .i64 lg, .int .i64 lr, .int .i64 li, .int .i64 lsg, .bool lo] 50) := ⟨_, rfl⟩
          obtain ⟨B, hB⟩ : ∃ B, B = wr.heap.size := ⟨_, rfl⟩
          have HW1 : Hid (Below wr.heap.size wr W1) := by rw [hW1]; exact (Below.refl _ _).alloc (Nat.le_refl _) _
          have hs1 : B < W1.heap.size := by rw [hW1, hB]; simp
          have HR0 : Hid (PairR P o b B ff off (.slice (some ⟨o, 0, none⟩) n n) (.slice (some ⟨b, off, none⟩) n c) (ov : Int) a lg lr li lsg lo W1 W1) := by
            obtain ⟨m1, m2, m3, m4, m5, m6, m7, m8, m9⟩ := HM.out
            have e : ∀ q x, q < wr.heap.size → W1.cell? ⟨q, x, none⟩ = wr.cell? ⟨q, x, none⟩ := fun q x hq => HW1.out.cell (p := ⟨q, x, none⟩) hq
            have hc := Lib.cell_of_heap (heap_alloc_new wr (.cells #[.int .i64 2, .int .i64 lg, .int .i64 lr, .int .i64 li, .int .i64 lsg, .bool lo] 50))
            rw [← hW1, ← hB] at hc
            exact ⟨(e _ _ hPr).trans m1, (e _ _ hPr).trans m2, (e _ _ (by omega)).trans m3, (e _ _ hbl).trans m4, (e _ _ hbl).trans m5, (e _ _ hbl).trans m6, (e _ _ hbl).trans m7, (e _ _ hbl).trans m8, (e _ _ hbl).trans m9,
              hc 0, hc 1, hc 2, hc 3, hc 4, hc 5, Below.refl _ _⟩
          rw [← hW1, ← hB]
          have HSZ : Hid (P < W1.heap.size ∧ o < W1.heap.size ∧ b < W1.heap.size ∧ B < W1.heap.size) := ⟨by omega, by omega, by omega, hs1⟩
          have HBE2 := Lib.hid hB
          clear hW1 hB
          have HFIN : Hid (∀ w2, Below W1.heap.size W1 w2 → Below P w w2 ∧ ∀ q, q < w.heap.size → q ≠ P → w2.heap[q]? = w.heap[q]?) := by
            intro w2 h2
            have h3 := HW1.out.trans (h2.mono HW1.out.size)
            exact ⟨HBE.out.trans (h3.mono (by omega)), fun q h4 h5 => (h3.block q (by omega)).trans (HKE.out q h4 h5)⟩
          by_cases hov0 : ov = 0
          · subst hov0
            rcases (show (¬ a.kind = 2) ∨ (a.kind = 2 ∧ ¬ a.gate = lg) ∨ (a.kind = 2 ∧ a.gate = lg ∧ ¬ a.rank = lr) ∨ (a.kind = 2 ∧ a.gate = lg ∧ a.rank = lr ∧ ¬ a.id = li) ∨ (a.kind = 2 ∧ a.gate = lg ∧ a.rank = lr ∧ a.id = li ∧ ¬ a.sign = lsg) ∨
                (a.kind = 2 ∧ a.gate = lg ∧ a.rank = lr ∧ a.id = li ∧ a.sign = lsg ∧ ¬ a.over = !lo) ∨ (a.kind = 2 ∧ a.gate = lg ∧ a.rank = lr ∧ a.id = li ∧ a.sign = lsg ∧ a.over = !lo) by
                  by_cases e1 : a.kind = 2 <;> by_cases e2 : a.gate = lg <;> by_cases e3 : a.rank = lr <;> by_cases e4 : a.id = li <;> by_cases e5 : a.sign = lsg <;> by_cases e6 : a.over = !lo <;> simp_all) with
              q1 | ⟨q1, q2⟩ | ⟨q1, q2, q3⟩ | ⟨q1, q2, q3, q4⟩ | ⟨q1, q2, q3, q4, q5⟩ | ⟨q1, q2, q3, q4, q5, q6⟩ | ⟨q1, q2, q3, q4, q5, q6⟩
            · have HE := Lib.hid (HNO.out (HPSH.out.trans (if_neg (fun e => by obtain ⟨_, e⟩ := e; injection e with e; first | exact q1 (by rw [e])))))
              go_region_held3 (fun w' => w'.cell? ⟨P, 5, none⟩ = some (.slice (some ⟨o, 0, none⟩) n n) ∧ w'.cell? ⟨P, 1, none⟩ = some (.slice (some ⟨b, off, none⟩) n c) ∧ w'.cell? ⟨o, ff, none⟩ = some (.int .i64 ((0 : Nat) : Int)) ∧
                  w'.cell? ⟨b, off + ff * 6, none⟩ = some (.int .i64 a.kind) ∧ w'.cell? ⟨b, off + ff * 6 + 1, none⟩ = some (.int .i64 a.gate) ∧ w'.cell? ⟨b, off + ff * 6 + 2, none⟩ = some (.int .i64 a.rank) ∧
                  w'.cell? ⟨b, off + ff * 6 + 3, none⟩ = some (.int .i64 a.id) ∧ w'.cell? ⟨b, off + ff * 6 + 4, none⟩ = some (.int .i64 a.sign) ∧ w'.cell? ⟨b, off + ff * 6 + 5, none⟩ = some (.bool a.over) ∧
                  w'.cell? ⟨B, 0, none⟩ = some (.int .i64 2) ∧ w'.cell? ⟨B, 1, none⟩ = some (.int .i64 lg) ∧ w'.cell? ⟨B, 2, none⟩ = some (.int .i64 lr) ∧
                  w'.cell? ⟨B, 3, none⟩ = some (.int .i64 li) ∧ w'.cell? ⟨B, 4, none⟩ = some (.int .i64 lsg) ∧ w'.cell? ⟨B, 5, none⟩ = some (.bool lo) ∧ Below W1.heap.size W1 w')
                (first | exact HR0.out.of HSZ.out.1 HSZ.out.2.1 HSZ.out.2.2.1 HSZ.out.2.2.2 (Below.refl _ _).drew | exact HR0.out.next HSZ.out.1 HSZ.out.2.1 HSZ.out.2.2.1 HSZ.out.2.2.2 (by assumption) hbw)
                (first
                  | (go_at_call 107; (with_reducible refine (HOT.out _).mono ?_); rintro e w2 ⟨rfl, hbw⟩))
              have hS : PairR P o b B ff off (.slice (some ⟨o, 0, none⟩) n n) (.slice (some ⟨b, off, none⟩) n c) ((0 : Nat) : Int) a lg lr li lsg lo W1 w2 := by assumption
              have HSS := Lib.hid (HFIN.out _ hS.last)
              clear hS
              go_wp2_with fail
              go_ret
              exact ⟨HSS.out.1, HSS.out.2, .inl ⟨HE.out, rfl⟩⟩
            · have HE := Lib.hid (HNO.out (HPSH.out.trans (if_neg (fun e => by obtain ⟨_, e⟩ := e; injection e with e; exact q2 (by rw [e])))))
              go_region_held3 (fun w' => w'.cell? ⟨P, 5, none⟩ = some (.slice (some ⟨o, 0, none⟩) n n) ∧ w'.cell? ⟨P, 1, none⟩ = some (.slice (some ⟨b, off, none⟩) n c) ∧ w'.cell? ⟨o, ff, none⟩ = some (.int .i64 ((0 : Nat) : Int)) ∧
                  w'.cell? ⟨b, off + ff * 6, none⟩ = some (.int .i64 a.kind) ∧ w'.cell? ⟨b, off + ff * 6 + 1, none⟩ = some (.int .i64 a.gate) ∧ w'.cell? ⟨b, off + ff * 6 + 2, none⟩ = some (.int .i64 a.rank) ∧
                  w'.cell? ⟨b, off + ff * 6 + 3, none⟩ = some (.int .i64 a.id) ∧ w'.cell? ⟨b, off + ff * 6 + 4, none⟩ = some (.int .i64 a.sign) ∧ w'.cell? ⟨b, off + ff * 6 + 5, none⟩ = some (.bool a.over) ∧
                  w'.cell? ⟨B, 0, none⟩ = some (.int .i64 2) ∧ w'.cell? ⟨B, 1, none⟩ = some (.int .i64 lg) ∧ w'.cell? ⟨B, 2, none⟩ = some (.int .i64 lr) ∧
                  w'.cell? ⟨B, 3, none⟩ = some (.int .i64 li) ∧ w'.cell? ⟨B, 4, none⟩ = some (.int .i64 lsg) ∧ w'.cell? ⟨B, 5, none⟩ = some (.bool lo) ∧ Below W1.heap.size W1 w')
                (first | exact HR0.out.of HSZ.out.1 HSZ.out.2.1 HSZ.out.2.2.1 HSZ.out.2.2.2 (Below.refl _ _).drew | exact HR0.out.next HSZ.out.1 HSZ.out.2.1 HSZ.out.2.2.1 HSZ.out.2.2.2 (by assumption) hbw)
                (first
                  | (go_at_call 107; (with_reducible refine (HOT.out _).mono ?_); rintro e w2 ⟨rfl, hbw⟩))
              have hS : PairR P o b B ff off (.slice (some ⟨o, 0, none⟩) n n) (.slice (some ⟨b, off, none⟩) n c) ((0 : Nat) : Int) a lg lr li lsg lo W1 w2 := by assumption
              have HSS := Lib.hid (HFIN.out _ hS.last)
              clear hS
              go_wp2_with fail
              go_ret
              exact ⟨HSS.out.1, HSS.out.2, .inl ⟨HE.out, rfl⟩⟩
            · have HE := Lib.hid (HNO.out (HPSH.out.trans (if_neg (fun e => by obtain ⟨_, e⟩ := e; injection e with e; exact q3 (by rw [e])))))
              go_region_held3 (fun w' => w'.cell? ⟨P, 5, none⟩ = some (.slice (some ⟨o, 0, none⟩) n n) ∧ w'.cell? ⟨P, 1, none⟩ = some (.slice (some ⟨b, off, none⟩) n c) ∧ w'.cell? ⟨o, ff, none⟩ = some (.int .i64 ((0 : Nat) : Int)) ∧
                  w'.cell? ⟨b, off + ff * 6, none⟩ = some (.int .i64 a.kind) ∧ w'.cell? ⟨b, off + ff * 6 + 1, none⟩ = some (.int .i64 a.gate) ∧ w'.cell? ⟨b, off + ff * 6 + 2, none⟩ = some (.int .i64 a.rank) ∧
                  w'.cell? ⟨b, off + ff * 6 + 3, none⟩ = some (.int .i64 a.id) ∧ w'.cell? ⟨b, off + ff * 6 + 4, none⟩ = some (.int .i64 a.sign) ∧ w'.cell? ⟨b, off + ff * 6 + 5, none⟩ = some (.bool a.over) ∧
                  w'.cell? ⟨B, 0, none⟩ = some (.int .i64 2) ∧ w'.cell? ⟨B, 1, none⟩ = some (.int .i64 lg) ∧ w'.cell? ⟨B, 2, none⟩ = some (.int .i64 lr) ∧
                  w'.cell? ⟨B, 3, none⟩ = some (.int .i64 li) ∧ w'.cell? ⟨B, 4, none⟩ = some (.int .i64 lsg) ∧ w'.cell? ⟨B, 5, none⟩ = some (.bool lo) ∧ Below W1.heap.size W1 w')
                (first | exact HR0.out.of HSZ.out.1 HSZ.out.2.1 HSZ.out.2.2.1 HSZ.out.2.2.2 (Below.refl _ _).drew | exact HR0.out.next HSZ.out.1 HSZ.out.2.1 HSZ.out.2.2.1 HSZ.out.2.2.2 (by assumption) hbw)
                (first
                  | (go_at_call 107; (with_reducible refine (HOT.out _).mono ?_); rintro e w2 ⟨rfl, hbw⟩))
              have hS : PairR P o b B ff off (.slice (some ⟨o, 0, none⟩) n n) (.slice (some ⟨b, off, none⟩) n c) ((0 : Nat) : Int) a lg lr li lsg lo W1 w2 := by assumption
              have HSS := Lib.hid (HFIN.out _ hS.last)
              clear hS
              go_wp2_with fail
              go_ret
              exact ⟨HSS.out.1, HSS.out.2, .inl ⟨HE.out, rfl⟩⟩
            · have HE := Lib.hid (HNO.out (HPSH.out.trans (if_neg (fun e => by obtain ⟨_, e⟩ := e; injection e with e; exact q4 (by rw [e])))))
              go_region_held3 (fun w' => w'.cell? ⟨P, 5, none⟩ = some (.slice (some ⟨o, 0, none⟩) n n) ∧ w'.cell? ⟨P, 1, none⟩ = some (.slice (some ⟨b, off, none⟩) n c) ∧ w'.cell? ⟨o, ff, none⟩ = some (.int .i64 ((0 : Nat) : Int)) ∧
                  w'.cell? ⟨b, off + ff * 6, none⟩ = some (.int .i64 a.kind) ∧ w'.cell? ⟨b, off + ff * 6 + 1, none⟩ = some (.int .i64 a.gate) ∧ w'.cell? ⟨b, off + ff * 6 + 2, none⟩ = some (.int .i64 a.rank) ∧
                  w'.cell? ⟨b, off + ff * 6 + 3, none⟩ = some (.int .i64 a.id) ∧ w'.cell? ⟨b, off + ff * 6 + 4, none⟩ = some (.int .i64 a.sign) ∧ w'.cell? ⟨b, off + ff * 6 + 5, none⟩ = some (.bool a.over) ∧
                  w'.cell? ⟨B, 0, none⟩ = some (.int .i64 2) ∧ w'.cell? ⟨B, 1, none⟩ = some (.int .i64 lg) ∧ w'.cell? ⟨B, 2, none⟩ = some (.int .i64 lr) ∧
                  w'.cell? ⟨B, 3, none⟩ = some (.int .i64 li) ∧ w'.cell? ⟨B, 4, none⟩ = some (.int .i64 lsg) ∧ w'.cell? ⟨B, 5, none⟩ = some (.bool lo) ∧ Below W1.heap.size W1 w')
                (first | exact HR0.out.of HSZ.out.1 HSZ.out.2.1 HSZ.out.2.2.1 HSZ.out.2.2.2 (Below.refl _ _).drew | exact HR0.out.next HSZ.out.1 HSZ.out.2.1 HSZ.out.2.2.1 HSZ.out.2.2.2 (by assumption) hbw)
                (first
                  | (go_at_call 107; (with_reducible refine (HOT.out _).mono ?_); rintro e w2 ⟨rfl, hbw⟩))
              have hS : PairR P o b B ff off (.slice (some ⟨o, 0, none⟩) n n) (.slice (some ⟨b, off, none⟩) n c) ((0 : Nat) : Int) a lg lr li lsg lo W1 w2 := by assumption
              have HSS := Lib.hid (HFIN.out _ hS.last)
              clear hS
              go_wp2_with fail
              go_ret
              exact ⟨HSS.out.1, HSS.out.2, .inl ⟨HE.out, rfl⟩⟩
            · have HE := Lib.hid (HNO.out (HPSH.out.trans (if_neg (fun e => by obtain ⟨_, e⟩ := e; injection e with e; exact q5 (by rw [e])))))
              go_region_held3 (fun w' => w'.cell? ⟨P, 5, none⟩ = some (.slice (some ⟨o, 0, none⟩) n n) ∧ w'.cell? ⟨P, 1, none⟩ = some (.slice (some ⟨b, off, none⟩) n c) ∧ w'.cell? ⟨o, ff, none⟩ = some (.int .i64 ((0 : Nat) : Int)) ∧
                  w'.cell? ⟨b, off + ff * 6, none⟩ = some (.int .i64 a.kind) ∧ w'.cell? ⟨b, off + ff * 6 + 1, none⟩ = some (.int .i64 a.gate) ∧ w'.cell? ⟨b, off + ff * 6 + 2, none⟩ = some (.int .i64 a.rank) ∧
                  w'.cell? ⟨b, off + ff * 6 + 3, none⟩ = some (.int .i64 a.id) ∧ w'.cell? ⟨b, off + ff * 6 + 4, none⟩ = some (.int .i64 a.sign) ∧ w'.cell? ⟨b, off + ff * 6 + 5, none⟩ = some (.bool a.over) ∧
                  w'.cell? ⟨B, 0, none⟩ = some (.int .i64 2) ∧ w'.cell? ⟨B, 1, none⟩ = some (.int .i64 lg) ∧ w'.cell? ⟨B, 2, none⟩ = some (.int .i64 lr) ∧
                  w'.cell? ⟨B, 3, none⟩ = some (.int .i64 li) ∧ w'.cell? ⟨B, 4, none⟩ = some (.int .i64 lsg) ∧ w'.cell? ⟨B, 5, none⟩ = some (.bool lo) ∧ Below W1.heap.size W1 w')
                (first | exact HR0.out.of HSZ.out.1 HSZ.out.2.1 HSZ.out.2.2.1 HSZ.out.2.2.2 (Below.refl _ _).drew | exact HR0.out.next HSZ.out.1 HSZ.out.2.1 HSZ.out.2.2.1 HSZ.out.2.2.2 (by assumption) hbw)
                (first
                  | (go_at_call 107; (with_reducible refine (HOT.out _).mono ?_); rintro e w2 ⟨rfl, hbw⟩))
              have hS : PairR P o b B ff off (.slice (some ⟨o, 0, none⟩) n n) (.slice (some ⟨b, off, none⟩) n c) ((0 : Nat) : Int) a lg lr li lsg lo W1 w2 := by assumption
              have HSS := Lib.hid (HFIN.out _ hS.last)
              clear hS
              go_wp2_with fail
              go_ret
              exact ⟨HSS.out.1, HSS.out.2, .inl ⟨HE.out, rfl⟩⟩
            · have HE := Lib.hid (HNO.out (HPSH.out.trans (if_neg (fun e => by obtain ⟨_, e⟩ := e; injection e with e; exact q6 (by rw [e])))))
              go_region_held3 (fun w' => w'.cell? ⟨P, 5, none⟩ = some (.slice (some ⟨o, 0, none⟩) n n) ∧ w'.cell? ⟨P, 1, none⟩ = some (.slice (some ⟨b, off, none⟩) n c) ∧ w'.cell? ⟨o, ff, none⟩ = some (.int .i64 ((0 : Nat) : Int)) ∧
                  w'.cell? ⟨b, off + ff * 6, none⟩ = some (.int .i64 a.kind) ∧ w'.cell? ⟨b, off + ff * 6 + 1, none⟩ = some (.int .i64 a.gate) ∧ w'.cell? ⟨b, off + ff * 6 + 2, none⟩ = some (.int .i64 a.rank) ∧
                  w'.cell? ⟨b, off + ff * 6 + 3, none⟩ = some (.int .i64 a.id) ∧ w'.cell? ⟨b, off + ff * 6 + 4, none⟩ = some (.int .i64 a.sign) ∧ w'.cell? ⟨b, off + ff * 6 + 5, none⟩ = some (.bool a.over) ∧
                  w'.cell? ⟨B, 0, none⟩ = some (.int .i64 2) ∧ w'.cell? ⟨B, 1, none⟩ = some (.int .i64 lg) ∧ w'.cell? ⟨B, 2, none⟩ = some (.int .i64 lr) ∧
                  w'.cell? ⟨B, 3, none⟩ = some (.int .i64 li) ∧ w'.cell? ⟨B, 4, none⟩ = some (.int .i64 lsg) ∧ w'.cell? ⟨B, 5, none⟩ = some (.bool lo) ∧ Below W1.heap.size W1 w')
                (first | exact HR0.out.of HSZ.out.1 HSZ.out.2.1 HSZ.out.2.2.1 HSZ.out.2.2.2 (Below.refl _ _).drew | exact HR0.out.next HSZ.out.1 HSZ.out.2.1 HSZ.out.2.2.1 HSZ.out.2.2.2 (by assumption) hbw)
                (first
                  | (go_at_call 107; (with_reducible refine (HOT.out _).mono ?_); rintro e w2 ⟨rfl, hbw⟩))
              have hS : PairR P o b B ff off (.slice (some ⟨o, 0, none⟩) n n) (.slice (some ⟨b, off, none⟩) n c) ((0 : Nat) : Int) a lg lr li lsg lo W1 w2 := by assumption
              have HSS := Lib.hid (HFIN.out _ hS.last)
              clear hS
              go_wp2_with fail
              go_ret
              exact ⟨HSS.out.1, HSS.out.2, .inl ⟨HE.out, rfl⟩⟩
            · have HE := Lib.hid (HSTEP.out _ (HPSH.out.trans (if_pos ⟨rfl, by rw [show a = ⟨2, lg, lr, li, lsg, !lo⟩ from by rw [← q1, ← q2, ← q3, ← q4, ← q5, ← q6]]⟩)))
              go_region_held3 (fun w' => w'.cell? ⟨P, 5, none⟩ = some (.slice (some ⟨o, 0, none⟩) n n) ∧ w'.cell? ⟨P, 1, none⟩ = some (.slice (some ⟨b, off, none⟩) n c) ∧ w'.cell? ⟨o, ff, none⟩ = some (.int .i64 ((0 : Nat) : Int)) ∧
                  w'.cell? ⟨b, off + ff * 6, none⟩ = some (.int .i64 a.kind) ∧ w'.cell? ⟨b, off + ff * 6 + 1, none⟩ = some (.int .i64 a.gate) ∧ w'.cell? ⟨b, off + ff * 6 + 2, none⟩ = some (.int .i64 a.rank) ∧
                  w'.cell? ⟨b, off + ff * 6 + 3, none⟩ = some (.int .i64 a.id) ∧ w'.cell? ⟨b, off + ff * 6 + 4, none⟩ = some (.int .i64 a.sign) ∧ w'.cell? ⟨b, off + ff * 6 + 5, none⟩ = some (.bool a.over) ∧
                  w'.cell? ⟨B, 0, none⟩ = some (.int .i64 2) ∧ w'.cell? ⟨B, 1, none⟩ = some (.int .i64 lg) ∧ w'.cell? ⟨B, 2, none⟩ = some (.int .i64 lr) ∧
                  w'.cell? ⟨B, 3, none⟩ = some (.int .i64 li) ∧ w'.cell? ⟨B, 4, none⟩ = some (.int .i64 lsg) ∧ w'.cell? ⟨B, 5, none⟩ = some (.bool lo) ∧ Below W1.heap.size W1 w')
                (first | exact HR0.out.of HSZ.out.1 HSZ.out.2.1 HSZ.out.2.2.1 HSZ.out.2.2.2 (Below.refl _ _).drew | exact HR0.out.next HSZ.out.1 HSZ.out.2.1 HSZ.out.2.2.1 HSZ.out.2.2.2 (by assumption) hbw)
                (first
                  | (go_at_call 107; (with_reducible refine (HOT.out _).mono ?_); rintro e w2 ⟨rfl, hbw⟩))
              have hS : PairR P o b B ff off (.slice (some ⟨o, 0, none⟩) n n) (.slice (some ⟨b, off, none⟩) n c) ((0 : Nat) : Int) a lg lr li lsg lo W1 w2 := by assumption
              have HB2 := Lib.hid (HW1.out.trans (hS.last.mono HW1.out.size))
              have HO2 := Lib.hid (HOO.out.below HB2.out)
              have HD2 := Lib.hid (HDJ.out.kept (HB2.out.block P hPr))
              obtain ⟨_, _, hoc2, hof2, _, _⟩ := HO2.out.cell (k := ff) hffn
              obtain ⟨_, _, hyc2, hyf2, _, hys2⟩ := HO2.out.cell (k := k) hlt
              obtain ⟨hP2, p0, p1, p2, p3, p4, p5⟩ := HD2.out.dia
              have hsz2 := HB2.out.size
              have HREL : Hid (∀ q, PaRel ls xc n P o mb f (.slice (some ⟨b, off, none⟩) n c) vA vX vS w (.int .i64 ((k : Int) + 1)) ((((w2.drewN q).setCell ⟨o, ff, none⟩ (.int .i64 (k : Int))).setCell ⟨o, k, none⟩ (.int .i64 (ff : Int))).drew)) := by
                intro q
                obtain ⟨wa, hwa⟩ : ∃ wa, wa = (w2.drewN q).setCell ⟨o, ff, none⟩ (.int .i64 (k : Int)) := ⟨_, rfl⟩
                obtain ⟨wb, hwb⟩ : ∃ wb, wb = wa.setCell ⟨o, k, none⟩ (.int .i64 (ff : Int)) := ⟨_, rfl⟩
                have ka : ∀ q, q ≠ o → wa.heap[q]? = w2.heap[q]? := fun q hq => by rw [hwa]; exact Below.heap_setCell _ _ _ q hq
                have kb : ∀ q, q ≠ o → wb.heap[q]? = wa.heap[q]? := fun q hq => by rw [hwb]; exact Below.heap_setCell _ _ _ q hq
                have kall : ∀ q, q < wr.heap.size → q ≠ o → wb.heap[q]? = wr.heap[q]? := fun q h0 h1 => (kb q h1).trans ((ka q h1).trans (HB2.out.block q h0))
                have b1 : Below P w (w2.drewN q) := below_drewN (HBE.out.trans (HB2.out.mono (by omega))) q
                have b2 : Below P w wa := by rw [hwa]; exact b1.setCell (p := ⟨o, ff, none⟩) (by show P ≤ o; omega) _
                have b3 : Below P w wb := by rw [hwb]; exact b2.setCell (p := ⟨o, k, none⟩) (by show P ≤ o; omega) _
                rw [← hwa, ← hwb]
                refine ⟨k + 1, _, Dm, by omega, by rw [Int.natCast_add]; rfl, HE.out, HDR.out, (ownsMap_kept HMO.out (kall mb hml (by omega))).mono (by omega), HD2.out.kept ((kb P (by omega)).trans (ka P (by omega))), ?_, fun q h1 h2 => (kall q (by omega) (by omega)).trans (HKE.out q h1 h2), b3.drew⟩
                have h1 := (HO2.out.kept (w' := w2.drewN q) rfl).set (k := ff) hffn (.int .i64 (k : Int))
                rw [← hwa] at h1
                have h2 := h1.set (k := k) hlt (.int .i64 (ff : Int))
                rw [← hwb, show (Value.int .i64 (k : Int)) = intV k from rfl, show (Value.int .i64 (ff : Int)) = intV ff from rfl, ← List.map_set, ← List.map_set] at h2
                exact h2
              clear hS hyc hyf
              go_wp2_with fail
              go_region
              go_wp2_with fail
              go_roundw
              case rel => exact HREL.out 0
              case measure => simp [intOf]; omega
          · have HE := Lib.hid (HNO.out (HPSH.out.trans (if_neg (fun e => hov0 (by injection e.1)))))
            obtain ⟨m1, m2, m3, m4, m5, m6, m7, m8, m9, m10, m11, m12, m13, m14, m15, _⟩ := HR0.out
            have hz : ((ov : Int) == 0) = false := by rw [beq_eq_false_iff_ne]; omega
            go_quiet (fail)
            go_wp2_with fail
            go_ret
            exact ⟨(HFIN.out _ (below_drewN (Below.refl _ _) _)).1, (HFIN.out _ (below_drewN (Below.refl _ _) _)).2, .inl ⟨HE.out, rfl⟩⟩
      · have hke : (l.kind == 2) = false := by rw [beq_eq_false_iff_ne]; exact hkd
        have HREL : Hid (∀ ob, PaRel ls xc n P o mb f (.slice (some ⟨b, off, none⟩) n c) vA vX vS w (.int .i64 ((k : Int) + 1)) (wr.alloc ob)) := by
          intro ob
          have hba : Below wr.heap.size wr (wr.alloc ob) := (Below.refl _ _).alloc (Nat.le_refl _) _
          refine ⟨k + 1, st, Dm, by omega, by rw [Int.natCast_add]; rfl, ?_, HDR.out, (HMO.out.alloc ob).mono (by omega), HDJ.out.kept (hba.block P hPr), HOO.out.below hba, fun q h1 h2 => (hba.block q (by have := HBE.out.size; omega)).trans (HKE.out q h1 h2), HBE.out.alloc (by omega) _⟩
          rw [pairM_succ HSTE.out hl, pairStep, if_neg hkd]
        clear hl hkd
        go_wp2_with fail
        go_roundw
        case rel => exact HREL.out _
        case measure => simp [intOf]; omega
    · have hkn : k = n := by omega
      subst hkn
      go_wp2_with fail
      go_ret
      exact ⟨HBE.out, HKE.out, .inr ⟨st, o, HSTE.out, rfl, by omega, HDJ.out, HOO.out⟩⟩

end Go.Proofs.YtbbpockkafbfmaaDoor
