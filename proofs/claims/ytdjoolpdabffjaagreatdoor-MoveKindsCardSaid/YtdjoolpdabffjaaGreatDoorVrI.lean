/- What single operations do: all of them. -/
import Derived.Test.YtdjoolpdabffjaaGreatDoorVrH
namespace Go.Proofs.YtdjoolpdabffjaaGreatDoor.Vr
open Go Go.Region Go.RowKit
section
variable {P : Program} {N : Nat} {w0 w : World} {γ : Gm} {H H' : Hp}

def OpRes (P : Program) (N : Nat) (w0 : World) (γ : Gm) (H' : Hp) (ρ : Operand → Value) (o : Oper) (w : World) (v : Value) : Prop :=
  ∃ γ' nx r w', Ext γ γ' ∧ VRel γ' v r ∧ Rel P N w0 γ' H' w' ∧ (execOp ρ o).run P w = .ok nx w' ∧ (nx = .value r ∨ nx = .skip ∧ r = undef)

theorem seqO_ok {l : List Operand} {e : Operand → Option Value} {ρ : Operand → Value} : ∀ {xs : List Value}, seqO (l.map e) = some xs → (∀ x ∈ l, ∀ v, e x = some v → VRel γ v (ρ x)) → VRels γ xs (l.map ρ) ∧ ∀ x ∈ l, (e x).isSome = true := by
  induction l with
  | nil => intro xs h _; cases h; exact ⟨.nil, by simp⟩
  | cons x l ih =>
    intro xs h hA
    simp only [List.map_cons] at h
    cases hx : e x with
    | none => simp [hx, seqO] at h
    | some v =>
      simp only [hx, seqO] at h
      split at h
      · rename_i ys hys
        cases h
        obtain ⟨h1, h2⟩ := ih hys (fun y hy => hA y (by simp [hy]))
        refine ⟨.cons _ _ _ _ (hA x (by simp) v hx) h1, fun y hy => ?_⟩
        rcases List.mem_cons.1 hy with rfl | hy
        · simp [hx]
        · exact h2 y hy
      · cases h

/-- Where all operands are plain, the operation does as the virtual one. -/
theorem plain_ok {a : VA} {ρ : Operand → Value} {o : Oper} {xs : List Value} (hs : ∀ cs b, o.op ≠ .select cs b) (hxs : seqO (o.op.operands.toList.map a.eval) = some xs) (hA : ∀ x ∈ o.op.operands, ∀ v, a.eval x = some v → VRel γ v (ρ x))
    (hp : xs.all plainC = true) : execOp ρ o = execOp (fun x => (a.eval x).getD undef) o := by
  refine execOp_congr o hs fun x hx => ?_
  have hx' : x ∈ o.op.operands.toList := by simpa using hx
  have key : ∀ (l : List Operand) (xs : List Value), seqO (l.map a.eval) = some xs → xs.all plainC = true → ∀ x ∈ l, ∃ v, a.eval x = some v ∧ plainC v = true := by
    intro l
    induction l with
    | nil => intro xs _ _ x hx; cases hx
    | cons y l ih =>
      intro xs h hp x hx
      simp only [List.map_cons] at h
      cases hy : a.eval y with
      | none => simp [hy, seqO] at h
      | some v =>
        simp only [hy, seqO] at h
        split at h
        · rename_i ys hys
          cases h
          simp only [List.all_cons, Bool.and_eq_true] at hp
          rcases List.mem_cons.1 hx with rfl | hx
          · exact ⟨v, hy, hp.1⟩
          · exact ih ys hys hp.2 x hx
        · cases h
  obtain ⟨v, hv, hpv⟩ := key _ _ hxs hp x hx'
  rw [hv, Option.getD_some]
  exact (hA x hx v hv).of_plainC hpv

theorem plainOper_ok {ρ : Operand → Value} {o : Oper} {E : Sem Next} {ys : List Value} {v : Value} {es : List Ev} (h : plainOper P E ys = some (.val v es)) (hEq : ys.all plainC = true → execOp ρ o = E) :
    es = [] ∧ plainC v = true ∧ (execOp ρ o).run P w = .ok (.value v) w := by
  unfold plainOper at h
  split at h
  · rename_i hp
    split at h
    · rename_i u hu
      split at h
      · rename_i hv
        cases h
        exact ⟨rfl, hv, by rw [hEq hp]; exact calm_ok hu⟩
      · cases h
    · cases h
  · cases h

theorem takeO_ok {ρ : Operand → Value} {lo : Option Operand} {rest : List Value} {more : List Operand} (h : VRels γ rest ((lo.toList ++ more).map ρ)) : ORel γ (takeO lo rest).1 (lo.map ρ) ∧ VRels γ (takeO lo rest).2 (more.map ρ) := by
  cases lo with
  | none => exact ⟨.none, by simpa [takeO] using h⟩
  | some x =>
    simp only [Option.toList_some, List.singleton_append, List.map_cons] at h
    cases h with
    | cons v r vs rs h1 h2 => exact ⟨.some _ _ h1, h2⟩

theorem VRels.one_inv {x r : Value} (h : VRels γ [x] [r]) : VRel γ x r := by cases h; assumption
theorem VRels.two_inv {x y r s : Value} (h : VRels γ [x, y] [r, s]) : VRel γ x r ∧ VRel γ y s := by
  cases h with | cons _ _ _ _ h1 h2 => exact ⟨h1, h2.one_inv⟩
theorem VRels.three_inv {x y z r s t : Value} (h : VRels γ [x, y, z] [r, s, t]) : VRel γ x r ∧ VRel γ y s ∧ VRel γ z t := by
  cases h with | cons _ _ _ _ h1 h2 => exact ⟨h1, h2.two_inv⟩

theorem OpRes.value {ρ : Operand → Value} {o : Oper} {v : Value} {sem : Sem Value} (he : execOp ρ o = (do pure (Next.value (← sem)))) {γ' : Gm} {rv : Value} {w' : World} (e : Ext γ γ') (hv : VRel γ' v rv) (hR : Rel P N w0 γ' H' w')
    (hr : sem.run P w = .ok rv w') : OpRes P N w0 γ H' ρ o w v :=
  ⟨γ', .value rv, rv, w', e, hv, hR, by rw [he, Sem.run_bind, hr]; rfl, .inl rfl⟩
theorem OpRes.unit {ρ : Operand → Value} {o : Oper} {sem : Sem Unit} (he : execOp ρ o = (do sem; pure Next.skip)) {γ' : Gm} {w' : World} (e : Ext γ γ') (hR : Rel P N w0 γ' H' w')
    (hr : sem.run P w = .ok () w') : OpRes P N w0 γ H' ρ o w undef :=
  ⟨γ', .skip, undef, w', e, VRel.undef, hR, by rw [he, Sem.run_bind, hr]; rfl, .inr ⟨rfl, rfl⟩⟩
theorem OpRes.pure {ρ : Operand → Value} {o : Oper} {v rv : Value} (he : execOp ρ o = Pure.pure (Next.value rv)) (hv : VRel γ v rv) (hR : Rel P N w0 γ H' w) : OpRes P N w0 γ H' ρ o w v :=
  ⟨γ, .value rv, rv, w, Ext.refl γ, hv, hR, by rw [he]; rfl, .inl rfl⟩

theorem newVar_ok {s : St} {el : TypeId} {vs : List Value} {r : Value} (hv : VRels γ vs r.cells.toList) (hR : Rel P N w0 γ H w) (hE : EvsOk H [.new s.n (.live { cells := vs, elem := el, exact := true, ro := false })] H') :
    ∃ γ', Ext γ γ' ∧ VRel γ' (.pointer (some ⟨s.n, 0, none⟩)) (.pointer (some ⟨w.heap.size, 0, none⟩)) ∧ Rel P N w0 γ' H' (w.alloc (.cells r.cells el)) ∧ (newVar el r).run P w = .ok ⟨w.heap.size, 0, none⟩ (w.alloc (.cells r.cells el)) := by
  obtain ⟨H1, g1, g2⟩ := hE
  cases g2
  obtain ⟨γ', e, hγ, hR'⟩ := hR.newRow g1 hv [] 0 0 (fun _ => rfl) (fun q => absurd rfl q) (by simp)
  exact ⟨γ', e, VRel.pointer s.n 0 _ hγ, by simpa using hR', rfl⟩

theorem zip_fst {α β : Type} : ∀ (l : List α) (k : List β), l.length = k.length → (l.zip k).map (·.1) = l
  | [], [], _ => rfl
  | _ :: l, _ :: k, h => by simp [zip_fst l k (by simpa using h)]
theorem zip_snd {α β : Type} : ∀ (l : List α) (k : List β), l.length = k.length → (l.zip k).map (·.2) = k
  | [], [], _ => rfl
  | _ :: l, _ :: k, h => by simp [zip_snd l k (by simpa using h)]

theorem len_ok {tys : Array TypeId} {T t : TypeId} {x v r : Value} {es : List Ev} (h : vlen P t x = some (.val v es)) (ht : tys[0]? = some t) (hx : VRel γ x r) :
    es = [] ∧ plainV v = true ∧ (Builtin.len_ tys T #[r]).run P w = .ok v w := by
  unfold vlen at h
  dsimp only at h
  split at h
  · rename_i el b n c hu
    cases h
    obtain ⟨b', c', rfl, _⟩ := hx.slice'
    exact ⟨rfl, rfl, by simp only [Builtin.len_, ht, List.getElem?_toArray, List.getElem?_cons_zero, Sem.run_bind, run_und hu, Result.andThen_ok]; rfl⟩
  · rename_i st hu
    cases h
    cases hx.of_plainV rfl
    exact ⟨rfl, rfl, by simp only [Builtin.len_, ht, List.getElem?_toArray, List.getElem?_cons_zero, Sem.run_bind, run_und hu, Result.andThen_ok]; rfl⟩
  · rename_i n el hu
    cases h
    exact ⟨rfl, rfl, by simp only [Builtin.len_, ht, List.getElem?_toArray, List.getElem?_cons_zero, Sem.run_bind, run_und hu, Result.andThen_ok]; rfl⟩
  · cases h

theorem cap_ok {s : St} {tys : Array TypeId} {T t : TypeId} {x v r : Value} {es : List Ev} (h : vcap P s t x = some (.val v es)) (ht : tys[0]? = some t) (hx : VRel γ x r) (hR : Rel P N w0 γ H w) (hE : EvsOk H es H') :
    H' = H ∧ plainV v = true ∧ (Builtin.cap_ tys T #[r]).run P w = .ok v w := by
  unfold vcap at h
  dsimp only at h
  split at h
  · rename_i el hu
    cases h; cases hE
    cases hx.of_plainV rfl
    exact ⟨rfl, rfl, by simp only [Builtin.cap_, ht, List.getElem?_toArray, List.getElem?_cons_zero, Sem.run_bind, run_und hu, Result.andThen_ok]; rfl⟩
  · rename_i el b off l c hu
    split at h
    · cases h
      obtain ⟨I, k, hI, hk, hc, rfl⟩ := hx.slice_inv
      obtain ⟨H1, ⟨⟨y, hy, hye, hyx⟩, rfl⟩, h2⟩ := hE
      cases h2
      obtain ⟨g1, g2, _⟩ := hR.at hy hI
      have hk0 : k = 0 := by have := g2 hyx; omega
      subst hk0
      exact ⟨rfl, rfl, by simp only [Builtin.cap_, ht, List.getElem?_toArray, List.getElem?_cons_zero, Sem.run_bind, run_und hu, Result.andThen_ok]; rfl⟩
    · cases h
  · cases h

theorem vopB_val {E : Sem Next} {zs : List Value} {s : St} {o : Oper} {v : Value} {es : List Ev} {ρ : Operand → Value} (h : vopB P E zs s o = some (.val v es)) (hrel : VRels γ zs (o.op.operands.toList.map ρ))
    (hEq : zs.all plainC = true → execOp ρ o = E) (hR : Rel P N w0 γ H w) (hE : EvsOk H es H') : OpRes P N w0 γ H' ρ o w v := by
  unfold vopB at h
  split at h
  · -- move
    rename_i x y heq
    rw [heq] at hrel
    cases h; cases hE
    exact .pure (by simp only [execOp, heq]) hrel.one_inv hR
  · rename_i x y heq
    rw [heq] at hrel
    cases h; cases hE
    exact .pure (by simp only [execOp, heq]) hrel.one_inv hR
  · -- pick
    rename_i c x y c' x' y' heq
    rw [heq] at hrel
    obtain ⟨h1, h2, h3⟩ := hrel.three_inv
    split at h
    · cases h; cases hE
      have hc := h1.of_plainV rfl
      exact .pure (by simp only [execOp, heq, hc]; rfl) h2 hR
    · cases h; cases hE
      have hc := h1.of_plainV rfl
      exact .pure (by simp only [execOp, heq, hc]; rfl) h3 hR
    · cases h
  · -- alloc
    rename_i el heq
    simp only [Option.map_eq_some_iff] at h
    obtain ⟨z, hz, he⟩ := h
    cases he
    obtain ⟨zv, hzc, hzp, hzr⟩ := zero_of hz
    obtain ⟨γ', e, hv, hR', hrun⟩ := newVar_ok (r := zv) (s := s) (by rw [hzc]; exact VRels.plain hzp) hR hE
    refine .value (sem := Instr.alloc el true (.tuple #[])) (by simp only [execOp, heq]) e hv hR' ?_
    simp only [Instr.alloc, Sem.run_bind, hzr, Result.andThen_ok, hrun, Sem.run_pure]
  · -- box
    rename_i el x y heq
    rw [heq] at hrel
    cases h
    obtain ⟨γ', e, hv, hR', hrun⟩ := newVar_ok (s := s) hrel.one_inv.cells hR hE
    refine .value (sem := Instr.box el (ρ x)) (by simp only [execOp, heq]) e hv hR' ?_
    simp only [Instr.box, Sem.run_bind, hrun, Result.andThen_ok, Sem.run_pure]
  · -- build
    rename_i zs _ _ t ps heq
    rw [heq] at hrel
    have hl : zs.length = ps.toList.length := by rw [hrel.length]; simp [Op.operands]
    have e1 : ((ps.map fun p => (p.1, ρ p.2)).toList.map (·.1)) = ps.toList.map (·.1) := by simp
    have e2 : ((ps.map fun p => (p.1, ρ p.2)).toList.map (·.2)) = ps.toList.map fun p => ρ p.2 := by simp
    obtain ⟨rfl, rv, hr, hv⟩ := build_ok (parts' := (ps.map fun p => (p.1, ρ p.2)).toList) (w := w) h (by rw [zip_fst _ _ (by simp [hl]), e1]) (by
      rw [zip_snd _ _ (by simp [hl]), e2]
      simpa [Op.operands, Function.comp_def] using hrel)
    cases hE
    exact .value (sem := Instr.build t (ps.map fun p => (p.1, ρ p.2))) (by simp only [execOp, heq]) (Ext.refl γ) hv hR (by simpa only [Array.toArray_toList] using hr)
  · -- buildSlice
    rename_i zs _ _ t len ps heq
    rw [heq] at hrel
    have hl : zs.length = ps.toList.length := by rw [hrel.length]; simp [Op.operands]
    have e1 : ((ps.map fun p => (p.1, ρ p.2)).toList.map (·.1)) = ps.toList.map (·.1) := by simp
    have e2 : ((ps.map fun p => (p.1, ρ p.2)).toList.map (·.2)) = ps.toList.map fun p => ρ p.2 := by simp
    obtain ⟨γ', rv, w', e, hv, hR', hr⟩ := buildSlice_ok (parts' := (ps.map fun p => (p.1, ρ p.2)).toList) h (by rw [zip_fst _ _ (by simp [hl]), e1]) (by
      rw [zip_snd _ _ (by simp [hl]), e2]
      simpa [Op.operands, Function.comp_def] using hrel) hR hE
    exact .value (sem := Instr.buildSlice t len (ps.map fun p => (p.1, ρ p.2))) (by simp only [execOp, heq]) e hv hR' (by simpa only [Array.toArray_toList] using hr)
  · -- load
    rename_i t x y heq
    rw [heq] at hrel
    obtain ⟨rv, hr, hv, rfl⟩ := load_ok h hrel.one_inv hR hE
    exact .value (by simp only [execOp, heq]) (Ext.refl γ) hv hR hr
  · -- store
    rename_i t x u y z heq
    rw [heq] at hrel
    obtain ⟨h1, h2⟩ := hrel.two_inv
    obtain ⟨rfl, w', hr, hR'⟩ := store_ok h h1 h2 hR hE
    exact .unit (by simp only [execOp, heq]) (Ext.refl γ) hR' hr
  · -- nilCheck
    rename_i x y heq
    rw [heq] at hrel
    have h1 := hrel.one_inv
    split at h
    · cases h; cases hE
      obtain ⟨b', hb, hn⟩ := h1.pointer'
      cases b' with
      | none => cases hn
      | some b' => exact .pure (by simp only [execOp, heq, hb]) (hb ▸ h1) hR
    · cases h; cases hE
      obtain ⟨a', b', hb⟩ := h1.func'
      exact .pure (by simp only [execOp, heq, hb]) (hb ▸ h1) hR
    · cases h
  · -- binOp
    rename_i op t x y yt x' y' heq
    have hrel' := hrel
    rw [heq] at hrel
    obtain ⟨h1, h2⟩ := hrel.two_inv
    unfold vbin at h
    split at h
    · rename_i hp
      split at h
      · rename_i u hu
        split at h
        · rename_i hv
          cases h; cases hE
          have := hEq (by simp [hp.1, hp.2])
          exact ⟨γ, .value v, v, w, Ext.refl γ, VRel.ofC hv, hR, by rw [this]; exact calm_ok hu, .inl rfl⟩
        · cases h
      · cases h
    · split at h
      · simp only [Option.map_eq_some_iff] at h
        obtain ⟨b, hb, he⟩ := h
        cases he; cases hE
        exact .value (sem := do eqGuard .eql t x y (ρ x) (ρ y); binOp .eql t (ρ x) (ρ y)) (by simp only [execOp, heq]) (Ext.refl γ) (.plain _ rfl) hR (nil_ok hb h1 h2 x y).1
      · simp only [Option.map_eq_some_iff] at h
        obtain ⟨b, hb, he⟩ := h
        cases he; cases hE
        exact .value (sem := do eqGuard .neq t x y (ρ x) (ρ y); binOp .neq t (ρ x) (ρ y)) (by simp only [execOp, heq]) (Ext.refl γ) (.plain _ rfl) hR (nil_ok hb h1 h2 x y).2
      · cases h
  · -- unOp
    rename_i op t x heq
    obtain ⟨rfl, hv, hr⟩ := plainOper_ok (w := w) h hEq
    cases hE
    exact ⟨γ, .value v, v, w, Ext.refl γ, VRel.ofC hv, hR, hr, .inl rfl⟩
  · -- convert
    rename_i src dst x y heq
    split at h
    · obtain ⟨rfl, hv, hr⟩ := plainOper_ok (w := w) h hEq
      cases hE
      exact ⟨γ, .value v, v, w, Ext.refl γ, VRel.ofC hv, hR, hr, .inl rfl⟩
    · rw [heq] at hrel
      obtain ⟨rfl, rv, hv, hr⟩ := convert_ok h hrel.one_inv hR hE
      exact .value (by simp only [execOp, heq]) (Ext.refl γ) hv hR hr
  · -- makeFunc
    rename_i _ g first captured heq
    rw [heq] at hrel
    have hl := hrel.length
    simp only [Op.operands, Array.toList_append, List.map_append, List.length_append, List.length_map, Array.length_toList] at hl
    rw [if_pos (by omega)] at h
    cases h; cases hE
    have h1 := hrel.take first.size
    have h2 := hrel.drop first.size
    have e1 : (List.map ρ (Op.makeFunc (Fn.func g) first captured).operands.toList).take first.size = (first.map ρ).toList := by
      simp [Op.operands]
    have e2 : (List.map ρ (Op.makeFunc (Fn.func g) first captured).operands.toList).drop first.size = (captured.map ρ).toList := by
      simp [Op.operands]
    rw [e1] at h1
    rw [e2] at h2
    exact .value (sem := Instr.makeFunc (.func g) (first.map ρ) (captured.map ρ)) (by simp only [execOp, heq]) (Ext.refl γ) (.func g _ _ _ _ (by simpa using h1) (by simpa using h2)) hR rfl
  · -- makeSlice
    rename_i t l c x y heq
    rw [heq] at hrel
    obtain ⟨h1, h2⟩ := hrel.two_inv
    obtain ⟨γ', rv, w', e, hv, hR', hr⟩ := makeSlice_ok h h1 h2 hR hE
    exact .value (by simp only [execOp, heq]) e hv hR' hr
  · -- slice
    rename_i t x lo hi mx y rest heq
    have hop : o.op.operands.toList = x :: (lo.toList ++ (hi.toList ++ (mx.toList ++ []))) := by
      rw [heq]; simp [Op.operands]
    rw [hop] at hrel
    cases hrel with
    | cons _ _ _ _ h1 h2 =>
      obtain ⟨rl, h3⟩ := takeO_ok h2
      obtain ⟨rh, h4⟩ := takeO_ok h3
      obtain ⟨rm, h5⟩ := takeO_ok h4
      obtain ⟨rfl, rv, hr, hv⟩ := slice_ok h h1 rl rh rm hR hE
      exact .value (by simp only [execOp, heq]) (Ext.refl γ) hv hR hr
  · -- fieldAddr
    rename_i t x f y heq
    rw [heq] at hrel
    obtain ⟨rfl, rv, hr, hv⟩ := fieldAddr_ok (w := w) h hrel.one_inv
    cases hE
    exact .value (by simp only [execOp, heq]) (Ext.refl γ) hv hR hr
  · -- field
    rename_i t x f y heq
    rw [heq] at hrel
    obtain ⟨rfl, rv, hr, hv⟩ := field_ok (w := w) h hrel.one_inv
    cases hE
    exact .value (by simp only [execOp, heq]) (Ext.refl γ) hv hR hr
  · -- indexAddr
    rename_i t x i y j heq
    rw [heq] at hrel
    obtain ⟨h1, h2⟩ := hrel.two_inv
    obtain ⟨rfl, rv, hr, hv⟩ := indexAddr_ok (w := w) h h1 h2
    cases hE
    exact .value (by simp only [execOp, heq]) (Ext.refl γ) hv hR hr
  · -- index
    rename_i t x i y j heq
    rw [heq] at hrel
    obtain ⟨h1, h2⟩ := hrel.two_inv
    obtain ⟨rfl, rv, hr, hv⟩ := index_ok (w := w) h h1 h2
    cases hE
    exact .value (by simp only [execOp, heq]) (Ext.refl γ) hv hR hr
  · -- extract
    rename_i x ix y heq
    rw [heq] at hrel
    obtain ⟨he, rv, hr, hv⟩ := extract_ok (P := P) (w := w) h hrel.one_inv
    subst he
    have e : H' = H := hE
    subst e
    exact .value (by simp only [execOp, heq]) (Ext.refl γ) hv hR hr
  · -- range
    rename_i t x y heq
    rw [heq] at hrel
    split at h
    · rename_i st hu
      cases h
      have hx := hrel.one_inv.of_plainV rfl
      obtain ⟨H1, ⟨g1, rfl⟩, g2⟩ := hE
      cases g2
      obtain ⟨e, hR'⟩ := hR.new g1 (y := .iter st 0) (I := ⟨w.heap.size, 0, 0, 0, 0⟩) (.stringIter st 0) rfl ⟨rfl, hR.size, by show (w.heap.push _)[w.heap.size]? = _; simp⟩
      refine .value (sem := Instr.range t (ρ x)) (by simp only [execOp, heq]) e (VRel.pointer s.n 0 _ (upd_same _ _ _)) hR' ?_
      simp only [Instr.range, hx, Sem.run_bind, run_und hu, Result.andThen_ok, Sem.run_pure, run_newObj]
      rfl
    · cases h
  · -- next
    rename_i x y heq
    rw [heq] at hrel
    obtain ⟨w', hv, hR', hr⟩ := next_ok (T := o.type) h hrel.one_inv hR hE
    exact .value (by simp only [execOp, heq]) (Ext.refl γ) hv hR' hr
  · -- makeMap
    rename_i _ t rsv heq
    rw [heq] at hrel
    split at h
    · rename_i kt et hu
      split at h
      · rename_i hall
        cases h
        obtain ⟨H1, ⟨g1, rfl⟩, g2⟩ := hE
        cases g2
        obtain ⟨e, hR'⟩ := hR.new g1 (y := .map []) (I := ⟨w.heap.size, 0, 0, 0, 0⟩) (.map #[] 0) rfl ⟨hR.size, #[], 0, by show (w.heap.push _)[w.heap.size]? = _; simp, rfl, fun j k v e hj _ => by simp at hj⟩
        refine .value (sem := Instr.makeMap t (rsv.map ρ)) (by simp only [execOp, heq]) e (VRel.map s.n _ (upd_same _ _ _)) hR' ?_
        cases rsv with
        | none => rfl
        | some r =>
          have hr : ∃ k n, ρ r = .int k n := by
            simp only [Op.operands, Option.toArray_some, List.map_cons, List.map_nil] at hrel
            cases hrel with
            | cons u _ _ _ h1 h2 =>
              simp only [List.all_cons, Bool.and_eq_true] at hall
              cases u <;> first | (simp at hall; done) | skip
              exact ⟨_, _, h1.of_plainV rfl⟩
          obtain ⟨k, n, hr⟩ := hr
          simp only [Instr.makeMap, Option.map_some, hr, Sem.run_bind, run_und hu, Result.andThen_ok, asInt, asIntOf, Sem.run_pure, run_newObj]
          rfl
      · cases h
    · cases h
  · -- lookup
    rename_i t x k ok y j heq
    rw [heq] at hrel
    obtain ⟨h1, h2⟩ := hrel.two_inv
    obtain ⟨rfl, rv, hv, hr⟩ := lookup_ok h h1 h2 hR hE
    exact .value (by simp only [execOp, heq]) (Ext.refl γ) hv hR hr
  · -- mapUpdate
    rename_i t x k u y j q heq
    rw [heq] at hrel
    obtain ⟨h1, h2, h3⟩ := hrel.three_inv
    obtain ⟨rfl, w', hR', hr⟩ := mapUpdate_ok h h1 h2 h3 hR hE
    exact .unit (by simp only [execOp, heq]) (Ext.refl γ) hR' hr
  · rename_i t x k u y j q heq
    rw [heq] at hrel
    obtain ⟨h1, h2, h3⟩ := hrel.three_inv
    obtain ⟨rfl, w', hR', hr⟩ := mapUpdate_ok h h1 h2 h3 hR hE
    exact .unit (by simp only [execOp, heq]) (Ext.refl γ) hR' hr
  · -- makeInterface
    rename_i t x y heq
    rw [heq] at hrel
    split at h
    · cases h
    · rename_i d hd hu
      cases h; cases hE
      refine .value (sem := Instr.makeInterface t (ρ x)) (by simp only [execOp, heq]) (Ext.refl γ) (.iface t _ _ hrel.one_inv) hR ?_
      simp only [Instr.makeInterface, Sem.run_bind, run_und hu, Result.andThen_ok]
      cases d <;> first | rfl | exact absurd rfl (hd _)
    · cases h
  · -- call
    rename_i zs _ _ c heq
    have hcall : ∀ b, c.callee = .builtin b → execOp ρ o = builtin b c.argTypes o.type (c.args.map fun | .const _ => true | _ => false) (c.args.map ρ) := by
      intro b hb
      simp only [execOp, heq, resolve, hb]
      rfl
    have hargs : ∀ b, c.callee = .builtin b → VRels γ zs (c.args.map ρ).toList := by
      intro b hb
      rw [heq] at hrel
      simpa [Op.operands, Call.operands, hb] using hrel
    have one : ∀ b x, c.callee = .builtin b → zs = [x] → ∃ r, c.args.map ρ = #[r] ∧ VRel γ x r := by
      intro b x hb hz
      have := hargs _ hb
      rw [hz] at this
      generalize c.args.map ρ = A at this
      obtain ⟨l⟩ := A
      cases this with
      | cons _ r _ rs h1 h2 => cases h2; exact ⟨r, rfl, h1⟩
    have two : ∀ b x y, c.callee = .builtin b → zs = [x, y] → ∃ r q, c.args.map ρ = #[r, q] ∧ VRel γ x r ∧ VRel γ y q := by
      intro b x y hb hz
      have := hargs _ hb
      rw [hz] at this
      generalize c.args.map ρ = A at this
      obtain ⟨l⟩ := A
      cases this with
      | cons _ r _ rs h1 h2 => cases h2 with | cons _ q _ _ h3 h4 => cases h4; exact ⟨r, q, rfl, h1, h3⟩
    split at h
    · unfold callee at h
      split at h
      · split at h
        · split at h <;> cases h
        · cases h
      · cases h
    · rename_i x hc
      obtain ⟨r, hr, hv⟩ := one _ _ hc rfl
      split at h
      · rename_i t ht
        obtain ⟨rfl, hp, hrun⟩ := len_ok (w := w) (T := o.type) h ht hv
        cases hE
        exact .value (sem := Builtin.len_ c.argTypes o.type (c.args.map ρ)) (by rw [hcall _ hc]; rfl) (Ext.refl γ) (.plain _ hp) hR (by rw [hr]; exact hrun)
      · cases h
    · rename_i x hc
      obtain ⟨r, hr, hv⟩ := one _ _ hc rfl
      split at h
      · rename_i t ht
        obtain ⟨rfl, hp, hrun⟩ := cap_ok (T := o.type) h ht hv hR hE
        exact .value (sem := Builtin.cap_ c.argTypes o.type (c.args.map ρ)) (by rw [hcall _ hc]; rfl) (Ext.refl γ) (.plain _ hp) hR (by rw [hr]; exact hrun)
      · cases h
    · rename_i x y hc
      obtain ⟨r, q, hr, h1, h2⟩ := two _ _ _ hc rfl
      obtain ⟨γ', rv, w', e, hv, hR', hrun⟩ := append_ok (T := o.type) h h1 h2 hR hE
      exact .value (sem := Builtin.append_ c.argTypes o.type (c.args.map ρ)) (by rw [hcall _ hc]; rfl) e hv hR' (by rw [hr]; exact hrun)
    · rename_i x hc
      obtain ⟨r, hr, hv⟩ := one _ _ hc rfl
      obtain ⟨rfl, w', hR', hrun⟩ := clear_ok (T := o.type) h hv hR hE
      exact .value (sem := Builtin.clear_ c.argTypes o.type (c.args.map ρ)) (by rw [hcall _ hc]; rfl) (Ext.refl γ) VRel.undef hR' (by rw [hr]; exact hrun)
    · rename_i x y hc
      obtain ⟨r, q, hr, h1, h2⟩ := two _ _ _ hc rfl
      obtain ⟨rv, w', hv, hR', hrun⟩ := copy_ok (T := o.type) h h1 h2 hR hE
      exact .value (sem := Builtin.copy_ c.argTypes o.type (c.args.map ρ)) (by rw [hcall _ hc]; rfl) (Ext.refl γ) hv hR' (by rw [hr]; exact hrun)
    · rename_i b hc _ _ _ _ _
      obtain ⟨rfl, hv, hr⟩ := plainOper_ok (w := w) h hEq
      cases hE
      exact ⟨γ, .value v, v, w, Ext.refl γ, VRel.ofC hv, hR, hr, .inl rfl⟩
    · cases h
  · cases h

theorem vload_nc {s : St} {t : TypeId} {x : Value} {f : FuncId} {args : List Value} (h : vload P s t x = some (.call f args)) : False := by
  unfold vload at h
  (try dsimp only at h)
  repeat' split at h
  all_goals first | (cases h; done) | (simp [Option.map_eq_some_iff] at h; done)

theorem vstore_nc {t : TypeId} {v x : Value} {f : FuncId} {args : List Value} (h : vstore P t v x = some (.call f args)) : False := by
  unfold vstore at h
  (try dsimp only at h)
  repeat' split at h
  all_goals first | (cases h; done) | (simp [Option.map_eq_some_iff] at h; done)

theorem vfieldAddr_nc {t : TypeId} {i : Nat} {x : Value} {f : FuncId} {args : List Value} (h : vfieldAddr P t i x = some (.call f args)) : False := by
  unfold vfieldAddr at h
  (try dsimp only at h)
  repeat' split at h
  all_goals first | (cases h; done) | (simp [Option.map_eq_some_iff] at h; done)

theorem vindexAddr_nc {t : TypeId} {x y : Value} {f : FuncId} {args : List Value} (h : vindexAddr P t x y = some (.call f args)) : False := by
  unfold vindexAddr at h
  (try dsimp only at h)
  repeat' split at h
  all_goals first | (cases h; done) | (simp [Option.map_eq_some_iff] at h; done)

theorem vfield_nc {t : TypeId} {i : Nat} {x : Value} {f : FuncId} {args : List Value} (h : vfield P t i x = some (.call f args)) : False := by
  unfold vfield at h
  (try dsimp only at h)
  repeat' split at h
  all_goals first | (cases h; done) | (simp [Option.map_eq_some_iff] at h; done)

theorem vindex_nc {t : TypeId} {x y : Value} {f : FuncId} {args : List Value} (h : vindex P t x y = some (.call f args)) : False := by
  unfold vindex at h
  (try dsimp only at h)
  repeat' split at h
  all_goals first | (cases h; done) | (simp [Option.map_eq_some_iff] at h; done)

theorem vextract_nc {i : Nat} {x : Value} {f : FuncId} {args : List Value} (h : vextract i x = some (.call f args)) : False := by
  unfold vextract at h
  (try dsimp only at h)
  repeat' split at h
  all_goals first | (cases h; done) | (simp [Option.map_eq_some_iff] at h; done)

theorem vbuild_nc {t : TypeId} {ps : List (Nat × Value)} {f : FuncId} {args : List Value} (h : vbuild P t ps = some (.call f args)) : False := by
  unfold vbuild at h
  (try dsimp only at h)
  repeat' split at h
  all_goals first | (cases h; done) | (simp [Option.map_eq_some_iff] at h; done)

theorem vbuildSlice_nc {s : St} {t : TypeId} {n : Nat} {ps : List (Nat × Value)} {f : FuncId} {args : List Value} (h : vbuildSlice P s t n ps = some (.call f args)) : False := by
  unfold vbuildSlice at h
  (try dsimp only at h)
  repeat' split at h
  all_goals first | (cases h; done) | (simp [Option.map_eq_some_iff] at h; done)

theorem vmakeSlice_nc {s : St} {t : TypeId} {x y : Value} {f : FuncId} {args : List Value} (h : vmakeSlice P s t x y = some (.call f args)) : False := by
  unfold vmakeSlice at h
  (try dsimp only at h)
  repeat' split at h
  all_goals first | (cases h; done) | (simp [Option.map_eq_some_iff] at h; done)

theorem vslice_nc {s : St} {t : TypeId} {x : Value} {l m n : Option Value} {f : FuncId} {args : List Value} (h : vslice P s t x l m n = some (.call f args)) : False := by
  unfold vslice at h
  (try dsimp only at h)
  repeat' split at h
  all_goals first | (cases h; done) | (simp [Option.map_eq_some_iff] at h; done)

theorem plainOper_nc {E : Sem Next} {xs : List Value} {f : FuncId} {args : List Value} (h : plainOper P E xs = some (.call f args)) : False := by
  unfold plainOper at h
  (try dsimp only at h)
  repeat' split at h
  all_goals first | (cases h; done) | (simp [Option.map_eq_some_iff] at h; done)

theorem vbin_nc {E : Sem Next} {op : BinOp} {t : TypeId} {x y : Value} {f : FuncId} {args : List Value} (h : vbin P E op t x y = some (.call f args)) : False := by
  unfold vbin at h
  (try dsimp only at h)
  repeat' split at h
  all_goals first | (cases h; done) | (simp [Option.map_eq_some_iff] at h; done)

theorem vlen_nc {t : TypeId} {x : Value} {f : FuncId} {args : List Value} (h : vlen P t x = some (.call f args)) : False := by
  unfold vlen at h
  (try dsimp only at h)
  repeat' split at h
  all_goals first | (cases h; done) | (simp [Option.map_eq_some_iff] at h; done)

theorem vcap_nc {s : St} {t : TypeId} {x : Value} {f : FuncId} {args : List Value} (h : vcap P s t x = some (.call f args)) : False := by
  unfold vcap at h
  (try dsimp only at h)
  repeat' split at h
  all_goals first | (cases h; done) | (simp [Option.map_eq_some_iff] at h; done)

theorem vgrow_nc {s : St} {el : TypeId} {k n : Nat} {new : List Value} {es : List Ev} {x : Value} {f : FuncId} {args : List Value} (h : vgrow s el k n new es x = some (.call f args)) : False := by
  unfold vgrow at h
  (try dsimp only at h)
  repeat' split at h
  all_goals first | (cases h; done) | (simp [Option.map_eq_some_iff] at h; done)

theorem vappend_nc {s : St} {tys : Array TypeId} {x y : Value} {f : FuncId} {args : List Value} (h : vappend P s tys x y = some (.call f args)) : False := by
  unfold vappend at h
  (try dsimp only at h)
  repeat' split at h
  all_goals first | (cases h; done) | (simp [Option.map_eq_some_iff] at h; done) | exact vgrow_nc h

theorem vcopy_nc {s : St} {tys : Array TypeId} {x y : Value} {f : FuncId} {args : List Value} (h : vcopy P s tys x y = some (.call f args)) : False := by
  unfold vcopy at h
  (try dsimp only at h)
  repeat' split at h
  all_goals first | (cases h; done) | (simp [Option.map_eq_some_iff] at h; done)

theorem vclear_nc {tys : Array TypeId} {x : Value} {f : FuncId} {args : List Value} (h : vclear P tys x = some (.call f args)) : False := by
  unfold vclear at h
  (try dsimp only at h)
  repeat' split at h
  all_goals first | (cases h; done) | (simp [Option.map_eq_some_iff] at h; done)

theorem vconvert_nc {s : St} {t u : TypeId} {x : Value} {f : FuncId} {args : List Value} (h : vconvert P s t u x = some (.call f args)) : False := by
  unfold vconvert at h
  (try dsimp only at h)
  repeat' split at h
  all_goals first | (cases h; done) | (simp [Option.map_eq_some_iff] at h; done)

theorem vnext_nc {s : St} {x : Value} {f : FuncId} {args : List Value} (h : vnext s x = some (.call f args)) : False := by
  unfold vnext at h
  (try dsimp only at h)
  repeat' split at h
  all_goals first | (cases h; done) | (simp [Option.map_eq_some_iff] at h; done)

theorem vlookup_nc {s : St} {t : TypeId} {x y : Value} {b : Bool} {f : FuncId} {args : List Value} (h : vlookup P s t x y b = some (.call f args)) : False := by
  unfold vlookup at h
  (try dsimp only at h)
  repeat' split at h
  all_goals first | (cases h; done) | (simp [Option.map_eq_some_iff] at h; done)

theorem vmapUpdate_nc {s : St} {t : TypeId} {x y z : Value} {f : FuncId} {args : List Value} (h : vmapUpdate P s t x y z = some (.call f args)) : False := by
  unfold vmapUpdate at h
  (try dsimp only at h)
  repeat' split at h
  all_goals first | (cases h; done) | (simp [Option.map_eq_some_iff] at h; done)

theorem vopB_call {E : Sem Next} {zs : List Value} {s : St} {o : Oper} {f : FuncId} {args : List Value} {ρ : Operand → Value} (h : vopB P E zs s o = some (.call f args)) (hrel : VRels γ zs (o.op.operands.toList.map ρ)) :
    ∃ rargs : Array Value, VRels γ args rargs.toList ∧ (execOp ρ o).run P w = .ok (.enter f rargs) w := by
  unfold vopB at h
  split at h
  case h_29 =>
    rename_i zs _ _ c heq
    split at h
    · rename_i fo fv as hc
      have hrel' : VRels γ (fv :: as) (ρ fo :: (c.args.map ρ).toList) := by
        rw [heq] at hrel
        simpa [Op.operands, Call.operands, hc] using hrel
      cases hrel' with
      | cons _ _ _ _ h1 h2 =>
        unfold callee at h
        split at h
        · rename_i g first captured _
          split at h
          · rename_i fn hfn
            split at h
            · rename_i hb
              cases h
              obtain ⟨x', y', hx', hx, hy⟩ := h1.func_inv
              refine ⟨x' ++ c.args.map ρ ++ y', ?_, ?_⟩
              · simp only [Array.toList_append]
                exact (hx.append h2).append hy
              · have hnb : fn.body.isNone = false := by cases hbb : fn.body <;> simp_all
                have hnn : (fn.name == "runtime.NumGoroutine") = false := by simpa using hb.2
                simp only [execOp, heq, resolve, hc, hx', Deferred.ofValue, Sem.run_bind, Sem.run_pure, Result.andThen_ok, invoke, callFunc, run_program, hfn, hnb, hnn, Bool.false_eq_true, if_false]
            · cases h
          · cases h
        · cases h
    · split at h
      · exact (vlen_nc h).elim
      · cases h
    · split at h
      · exact (vcap_nc h).elim
      · cases h
    · exact (vappend_nc h).elim
    · exact (vclear_nc h).elim
    · exact (vcopy_nc h).elim
    · exact (plainOper_nc h).elim
    · cases h
  all_goals exfalso
  all_goals first
    | (cases h; done)
    | exact vload_nc h | exact vstore_nc h | exact vfieldAddr_nc h | exact vindexAddr_nc h | exact vfield_nc h | exact vindex_nc h | exact vextract_nc h | exact vbuild_nc h | exact vbuildSlice_nc h | exact vmakeSlice_nc h
    | exact plainOper_nc h | exact vbin_nc h | exact vnext_nc h | exact vlookup_nc h | exact vmapUpdate_nc h
    | exact vslice_nc h
    | (split at h <;> first | (cases h; done) | exact vslice_nc h | exact plainOper_nc h | exact vconvert_nc h | (split at h <;> cases h; done))
    | (simp [Option.map_eq_some_iff] at h; done)

end
end Go.Proofs.YtdjoolpdabffjaaGreatDoor.Vr
