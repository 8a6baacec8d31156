/- What single operations do: addresses, parts, slices, append. -/
import Derived.Test.YtdjoolpdabffjaaGreatDoorVrA
namespace Go.Proofs.YtdjoolpdabffjaaGreatDoor.Vr
open Go Go.Region Go.RowKit
section
variable {P : Program} {N : Nat} {w0 w : World} {γ : Gm} {H H' : Hp}

theorem fieldAddr_ok {t : TypeId} {f : Nat} {x v r : Value} {es : List Ev} (h : vfieldAddr P t f x = some (.val v es)) (hx : VRel γ x r) :
    es = [] ∧ ∃ rv, (Instr.fieldAt t r f).run P w = .ok rv w ∧ VRel γ v rv := by
  unfold vfieldAddr at h
  split at h
  · rename_i b off
    obtain ⟨I, hI, rfl⟩ := hx.pointer_inv
    split at h
    · rename_i fields hu
      split at h
      · rename_i fd hf
        split at h
        · rename_i n hn
          cases h
          refine ⟨rfl, .pointer (some ⟨I.b, I.o + (off + fd.offset), none⟩), ?_, .pointer _ _ I hI⟩
          simp [Instr.fieldAt, Instr.sureAddr, fieldPlace, run_und hu, hf, run_size hn, Addr.add_mid, Nat.add_assoc]
        · cases h
      · cases h
    · cases h
  · cases h

theorem indexAddr_ok {t : TypeId} {x i v r ri : Value} {es : List Ev} (h : vindexAddr P t x i = some (.val v es)) (hx : VRel γ x r) (hi : VRel γ i ri) :
    es = [] ∧ ∃ rv, (Instr.indexAt t r ri).run P w = .ok rv w ∧ VRel γ v rv := by
  unfold vindexAddr at h
  split at h
  · rename_i k i
    cases hi.of_plainV rfl
    split at h
    · rename_i el b off len cap hu
      obtain ⟨I, q, hI, hk, hc, rfl⟩ := hx.slice_inv
      split at h
      · rename_i n hn
        split at h
        · rename_i hb
          cases h
          refine ⟨rfl, .pointer (some ⟨I.b, I.o + (off + i.toNat * n), none⟩), ?_, .pointer _ _ I hI⟩
          simp [Instr.indexAt, asIntOf, run_und hu, hb, run_size hn, Addr.add_mid, Nat.add_assoc]
        · cases h
      · cases h
    · rename_i len el b off hu
      obtain ⟨I, hI, rfl⟩ := hx.pointer_inv
      split at h
      · rename_i n hn
        split at h
        · rename_i hb
          cases h
          refine ⟨rfl, .pointer (some ⟨I.b, I.o + (off + i.toNat * n), none⟩), ?_, .pointer _ _ I hI⟩
          simp [Instr.indexAt, asIntOf, Instr.sureAddr, run_und hu, hb, run_size hn, Addr.add_mid, Nat.add_assoc]
        · cases h
      · cases h
    · cases h
  · cases h

theorem run_isAgg {t : TypeId} {d : TypeDesc} (hu : P.underlying t = some d) : (isAgg t).run P w = .ok d.isRow w := by
  unfold isAgg
  rw [Sem.run_bind, run_und hu]
  cases d <;> rfl

theorem VRels.extract {x x' : Array Value} (h : VRels γ x.toList x'.toList) (a b : Nat) : VRels γ (x.extract a b).toList (x'.extract a b).toList := by
  simp only [Array.toList_extract, List.extract_eq_take_drop]
  exact (h.drop a).take (b - a)

theorem part_ok {t : TypeId} {cs cs' : Array Value} {off : Nat} {v : Value} (h : partV P t cs off = some v) (hc : VRels γ cs.toList cs'.toList) :
    ∃ rv, (part t cs' off).run P w = .ok rv w ∧ VRel γ v rv := by
  unfold partV at h
  split at h
  · cases h
  · rename_i fs hu
    split at h
    · rename_i n hn
      cases h
      exact ⟨_, by simp [part, run_isAgg hu, TypeDesc.isRow, run_size hn], .agg _ _ (hc.extract _ _)⟩
    · cases h
  · rename_i k el hu
    split at h
    · rename_i n hn
      cases h
      exact ⟨_, by simp [part, run_isAgg hu, TypeDesc.isRow, run_size hn], .agg _ _ (hc.extract _ _)⟩
    · cases h
  · rename_i d h1 h2 hu
    have hd : d.isRow = false := by cases d <;> first | rfl | exact absurd rfl (h1 _) | exact absurd rfl (h2 _ _)
    obtain ⟨r, hr, hv⟩ := hc.get (j := off) (v := v) (by simpa using h)
    have hr' : cs'[off]? = some r := by simpa using hr
    exact ⟨r, by simp [part, run_isAgg hu, hd, hr'], hv⟩

theorem field_ok {t : TypeId} {f : Nat} {x v r : Value} {es : List Ev} (h : vfield P t f x = some (.val v es)) (hx : VRel γ x r) :
    es = [] ∧ ∃ rv, (Instr.field t r f).run P w = .ok rv w ∧ VRel γ v rv := by
  unfold vfield at h
  split at h
  · rename_i cs
    obtain ⟨cs', rfl, hcs⟩ := hx.agg_inv
    split at h
    · rename_i fields hu
      split at h
      · rename_i fd hf
        simp only [Option.map_eq_some_iff] at h
        obtain ⟨u, hu', he⟩ := h
        cases he
        obtain ⟨rv, hrv, hv⟩ := part_ok (w := w) hu' hcs
        exact ⟨rfl, rv, by simp [Instr.field, run_und hu, hf, asAgg, hrv], hv⟩
      · cases h
    · cases h
  · cases h

theorem index_ok {t : TypeId} {x i v r ri : Value} {es : List Ev} (h : vindex P t x i = some (.val v es)) (hx : VRel γ x r) (hi : VRel γ i ri) :
    es = [] ∧ ∃ rv, (Instr.index t r ri).run P w = .ok rv w ∧ VRel γ v rv := by
  unfold vindex at h
  split at h
  · rename_i cs k i
    cases hi.of_plainV rfl
    obtain ⟨cs', rfl, hcs⟩ := hx.agg_inv
    split at h
    · rename_i len el hu
      split at h
      · rename_i n hn
        split at h
        · rename_i hb
          simp only [Option.map_eq_some_iff] at h
          obtain ⟨u, hu', he⟩ := h
          cases he
          obtain ⟨rv, hrv, hv⟩ := part_ok (w := w) hu' hcs
          exact ⟨rfl, rv, by simp [Instr.index, asIntOf, run_und hu, hb, run_size hn, hrv], hv⟩
        · cases h
      · cases h
    · cases h
  · rename_i s k i
    cases hi.of_plainV rfl
    cases hx.of_plainV rfl
    split at h
    · rename_i hu
      split at h
      · rename_i b hb
        cases h
        exact ⟨rfl, _, by simp [Instr.index, asIntOf, run_und hu, hb], .plain _ rfl⟩
      · cases h
    · cases h
  · cases h

theorem extract_ok {ix : Nat} {x v r : Value} {es : List Ev} (h : vextract ix x = some (.val v es)) (hx : VRel γ x r) :
    es = [] ∧ ∃ rv, (Instr.extract r ix).run P w = .ok rv w ∧ VRel γ v rv := by
  unfold vextract at h
  split at h
  · rename_i vs
    obtain ⟨vs', rfl, hvs⟩ := hx.tuple_inv
    simp only [Option.map_eq_some_iff] at h
    obtain ⟨u, hu, he⟩ := h
    cases he
    obtain ⟨rv, hr, hv⟩ := hvs.get (j := ix) (v := v) (by simpa using hu)
    have hr' : vs'[ix]? = some rv := by simpa using hr
    exact ⟨rfl, rv, by simp [Instr.extract, hr'], hv⟩
  · cases h

/-! ### Build -/
theorem VRels.overlay : ∀ {cs rs : List Value} (k : Nat) {vs us : List Value}, VRels γ cs rs → VRels γ vs us → VRels γ (overlay cs k vs) (overlay rs k us)
  | _, _, 0, vs, us, h, hv => by
    simp only [Vr.overlay, hv.length]
    exact hv.append (h.drop _)
  | _, _, k + 1, vs, us, h, hv => by
    cases h with
    | nil => exact .nil
    | cons c r cs rs hc hs => exact .cons _ _ _ _ hc (VRels.overlay k hs hv)

theorem foldl_set (off : Nat) : ∀ (vs : List Value) (j : Nat) (cs : Array Value), off + j + vs.length ≤ cs.size →
    (vs.zipIdx j).foldl (fun cs (x : Value × Nat) => cs.setIfInBounds (off + x.2) x.1) cs = (overlay cs.toList (off + j) vs).toArray
  | [], j, cs, h => by
    have e : ∀ (l : List Value) (k : Nat), k ≤ l.length → overlay l k [] = l := by
      intro l
      induction l with
      | nil => intro k hk; cases k with | zero => rfl | succ k => simp at hk
      | cons c l ih => intro k hk; cases k with | zero => rfl | succ k => simp only [overlay]; rw [ih k (by simpa using hk)]
    simp only [List.zipIdx_nil, List.foldl_nil]
    rw [e _ _ (by simpa using h)]
  | v :: vs, j, cs, h => by
    simp only [List.zipIdx_cons, List.foldl_cons]
    rw [foldl_set off vs (j + 1) _ (by simp at h ⊢; omega)]
    congr 1
    apply List.ext_getElem?
    intro i
    rw [overlay_get _ _ _ _ (by simp at h ⊢; omega), overlay_get _ _ _ _ (by simp at h ⊢; omega)]
    simp only [Array.toList_setIfInBounds, List.getElem?_set, List.length_cons]
    by_cases c1 : i < off + j
    · rw [if_pos (by omega), if_neg (by omega), if_pos c1]
    · rw [if_neg c1]
      by_cases c2 : i = off + j
      · subst c2
        rw [if_pos (by omega), if_pos rfl, if_pos (by simp at h ⊢; omega), if_pos (by omega)]
        simp
      · rw [if_neg (by omega)]
        by_cases c3 : i < off + (j + 1) + vs.length
        · rw [if_pos c3, if_pos (by omega)]
          rw [show i - (off + j) = (i - (off + (j + 1))) + 1 by omega, List.getElem?_cons_succ]
        · rw [if_neg c3, if_neg (by omega), if_neg (by omega)]

theorem fill_ok {place : Nat → Option (Nat × Nat)} : ∀ {parts parts' : List (Nat × Value)} {cells : List Value} {cells' : Array Value} {out : List Value}, fillV place cells parts = some out → VRels γ cells cells'.toList →
    parts.map (·.1) = parts'.map (·.1) → VRels γ (parts.map (·.2)) (parts'.map (·.2)) → ∃ out', Instr.fill place cells' parts' = some out' ∧ VRels γ out out'.toList
  | [], [], cells, cells', out, h, hc, _, _ => by cases h; exact ⟨cells', rfl, hc⟩
  | [], _ :: _, _, _, _, _, _, h1, _ => by simp at h1
  | _ :: _, [], _, _, _, _, _, h1, _ => by simp at h1
  | (i, v) :: rest, (i', v') :: rest', cells, cells', out, h, hc, h1, h2 => by
    simp only [List.map_cons, List.cons.injEq] at h1
    obtain ⟨rfl, h1⟩ := h1
    simp only [List.map_cons] at h2
    cases h2 with
    | cons _ _ _ _ hv hvs =>
      simp only [fillV] at h
      split at h
      · cases h
      · rename_i off size hp
        split at h
        · cases h
        · rename_i hn
          have hcs := hv.cells
          have hl := hcs.length
          have hl2 := hc.length
          simp only [Array.length_toList] at hl hl2
          have hn' : ¬ (v'.cells.size ≠ size ∨ off + v'.cells.size > cells'.size) := by rw [← hl, ← hl2]; exact hn
          have hsz : off + 0 + v'.cells.toList.length ≤ cells'.size := by
            have := fun q => hn' (.inr q)
            simp only [Array.length_toList]; omega
          have he := foldl_set off v'.cells.toList 0 cells' hsz
          have hov : VRels γ (overlay cells off v.cells.toList) (overlay cells'.toList off v'.cells.toList) := hc.overlay off hcs
          obtain ⟨out', ho, hr⟩ := fill_ok (cells' := (overlay cells'.toList off v'.cells.toList).toArray) h (by simpa using hov) h1 hvs
          refine ⟨out', ?_, hr⟩
          simp only [Instr.fill, hp]
          have hn2 : (v'.cells.size ≠ size || off + v'.cells.size > cells'.size) = false := by
            simp only [not_or] at hn'
            simp only [Bool.or_eq_false_iff, decide_eq_false_iff_not]
            exact ⟨by simpa using hn'.1, hn'.2⟩
          simp only [hn2, Bool.false_eq_true, if_false]
          rw [← ho]
          congr 1
          simp only [Nat.add_zero] at he
          rw [← he, ← Array.foldl_toList, Array.toList_zipIdx]

theorem places_ok : ∀ {fs : List Field} {pl : List (Nat × Nat)}, places P fs = some pl → (fs.mapM fun f => (do pure (f.offset, ← sizeOf f.type) : Sem (Nat × Nat))).run P w = .ok pl w
  | [], _, h => by cases h; rfl
  | f :: fs, pl, h => by
    simp only [places] at h
    split at h
    · rename_i n r hn hr
      cases h
      have ih := places_ok hr
      simp only [List.mapM_cons, Sem.run_bind, run_size hn, Result.andThen_ok, Sem.run_pure, ih]
    · cases h

theorem build_ok {t : TypeId} {parts parts' : List (Nat × Value)} {v : Value} {es : List Ev} (h : vbuild P t parts = some (.val v es)) (h1 : parts.map (·.1) = parts'.map (·.1)) (h2 : VRels γ (parts.map (·.2)) (parts'.map (·.2))) :
    es = [] ∧ ∃ rv, (Instr.build t parts'.toArray).run P w = .ok rv w ∧ VRel γ v rv := by
  unfold vbuild at h
  split at h
  · cases h
  · rename_i zero hz
    obtain ⟨z, hzc, hzp, hzr⟩ := zero_of hz
    have hzz : VRels γ zero z.cells.toList := by rw [hzc]; exact VRels.plain hzp
    split at h
    · rename_i fields hu
      split at h
      · cases h
      · rename_i pl hpl
        split at h
        · rename_i cs hcs
          cases h
          have hpl' := places_ok (w := w) hpl
          have hm : (fields.mapM fun f => (do pure (f.offset, ← sizeOf f.type) : Sem (Nat × Nat))).run P w = .ok pl.toArray w := by
            rw [Array.mapM_eq_mapM_toList]
            simp only [Sem.run_map, hpl', Result.andThen_ok]
          obtain ⟨out, ho, hr⟩ := fill_ok hcs hzz h1 h2
          refine ⟨rfl, .agg out, ?_, .agg _ _ hr⟩
          simp only [Instr.build, Sem.run_bind, hzr, Result.andThen_ok, run_und hu, hm]
          simp [ho]
        · cases h
    · rename_i k el hu
      split at h
      · rename_i n hn
        split at h
        · rename_i cs hcs
          cases h
          obtain ⟨out, ho, hr⟩ := fill_ok hcs hzz h1 h2
          refine ⟨rfl, .agg out, ?_, .agg _ _ hr⟩
          simp only [Instr.build, Sem.run_bind, hzr, Result.andThen_ok, run_und hu, run_size hn]
          simp [ho]
        · cases h
      · cases h
    · cases h

end
end Go.Proofs.YtdjoolpdabffjaaGreatDoor.Vr
