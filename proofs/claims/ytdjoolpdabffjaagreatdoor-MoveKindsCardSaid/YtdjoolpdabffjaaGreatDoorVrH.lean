/- What single operations do: maps, iterators. -/
import Derived.Test.YtdjoolpdabffjaaGreatDoorVrG
namespace Go.Proofs.YtdjoolpdabffjaaGreatDoor.Vr
open Go Go.Region Go.RowKit
section
variable {P : Program} {N : Nat} {w0 w : World} {γ : Gm} {H H' : Hp}

def World.obj (w : World) (b : Nat) (o : Obj) : World := { w with heap := w.heap.setIfInBounds b o }

theorem Rel.obj (hR : Rel P N w0 γ H w) {b : Nat} {I : Im} {x y : Slot} (hx : H b = some x) (hax : aliveS x = true) (hI : γ b = some I) (hN : N ≤ I.b) (o : Obj) (hy : SRel P N γ (World.obj w I.b o) I y) : Rel P N w0 γ (upd H b y) (World.obj w I.b o) := by
  have hlt := (hR.at hx hI).lt hax
  have hother : ∀ k, k ≠ I.b → (World.obj w I.b o).heap[k]? = w.heap[k]? := fun k hk => by simp [World.obj, Ne.symm hk]
  refine hR.put (Ext.refl γ) (hR.below.trans ⟨rfl, rfl, rfl, by simp [World.obj], fun k hk => hother k (by omega)⟩) (by simpa [World.obj] using hR.size) hI (fun _ _ => rfl) hy ?_ ?_
  · intro _ j z J hj hz ha hJ
    exact hR.apart j b z x J I hz hx ha hax hJ hI hj
  · intro j z J hj hz ha hJ
    exact hother _ (hR.apart j b z x J I hz hx ha hax hJ hI hj)

theorem obj_same {b : Nat} {o : Obj} (h : b < w.heap.size) : (World.obj w b o).heap[b]? = some o := by
  simp [World.obj, h]

theorem run_getObj {b : Nat} {o : Obj} (h : w.heap[b]? = some o) (hc : ∀ c e f, o ≠ .cells c e f) : (getObj b).run P w = .ok o w := by
  cases o <;> first | exact absurd rfl (hc _ _ _) | (simp only [getObj, Sem.run, h])
theorem run_setObj {b : Nat} {o o' : Obj} (h : w.heap[b]? = some o) (hc : ∀ c e f, o ≠ .cells c e f) : (setObj b o').run P w = .ok () (World.obj w b o') := by
  cases o <;> first | exact absurd rfl (hc _ _ _) | (simp only [setObj, Sem.run, h]; rfl)

theorem checkKey_ok {kt : TypeId} {kd : TypeDesc} (hu : P.underlying kt = some kd) (hk : keyKind kd = true) (e : Bool) (k : Value) : (Instr.checkKey e 10000 kt k).run P w = .ok () w := by
  show (Instr.checkKey e (9999 + 1) kt k).run P w = _
  rw [Instr.checkKey, Sem.run_bind, run_und hu, Result.andThen_ok]
  cases kd <;> first | (simp [keyKind] at hk; done) | (cases k <;> rfl)

theorem findKey_ok {kt : TypeId} {kd : TypeDesc} {k : Value} {me : List MapEntry} {o : Option (Nat × Value)} (hu : P.underlying kt = some kd) (h : Instr.findNow kd k me 0 = some o) : (Instr.findKey kt k me).run P w = .ok o w := by
  simp only [Instr.findKey, Sem.run_bind, run_und hu, Result.andThen_ok, h]
  rfl

theorem lookup_ok {s : St} {t : TypeId} {x k v rx rk : Value} {ok : Bool} {es : List Ev} (h : vlookup P s t x k ok = some (.val v es)) (hx : VRel γ x rx) (hk : VRel γ k rk) (hR : Rel P N w0 γ H w) (hE : EvsOk H es H') :
    H' = H ∧ ∃ rv, VRel γ v rv ∧ (Instr.lookup t rx rk ok).run P w = .ok rv w := by
  unfold vlookup at h
  split at h
  · rename_i kt et hu
    split at h
    · rename_i kd b hkd
      obtain ⟨I, hI, rfl⟩ := hx.map_inv
      split at h
      · rename_i ents hents
        split at h
        · rename_i hcond
          cases hk.of_plainV hcond.2
          -- what is there
          have main : ∀ (o : Option (Nat × Value)) , vfind kd k ents 0 = some o → EvsOk H [.look b (.map ents)] H' → H' = H ∧ ∃ me c o', w.heap[I.b]? = some (.map me c) ∧ Instr.findNow kd k me.toList 0 = some o' ∧
              (match o, o' with | none, none => True | some (_, u), some (_, u') => VRel γ u u' | _, _ => False) := by
            intro o hf hE
            obtain ⟨H1, ⟨g1, rfl⟩, g2⟩ := hE
            cases g2
            obtain ⟨f1, me, c, f2, f3, f4⟩ := hR.at g1 hI
            obtain ⟨o', ho, hrel⟩ := find_ok (me := me.toList) hf ⟨by simpa using f3, fun j k v e hj he => f4 j k v e hj (by simpa using he)⟩
            refine ⟨rfl, me, c, o', f2, ho, ?_⟩
            cases o with
            | none => cases o' with | none => trivial | some _ => exact hrel
            | some p => cases o' with | none => exact hrel | some q => exact hrel.2.1
          split at h
          · rename_i j u hf
            cases h
            obtain ⟨hH, me, c, o', h1, h2, h3⟩ := main _ hf hE
            refine ⟨hH, ?_⟩
            cases o' with
            | none => exact h3.elim
            | some q =>
              obtain ⟨j', u'⟩ := q
              have hrun : (Instr.lookup t (.map (some I.b)) k ok).run P w = .ok (if ok then .tuple #[u', .bool true] else u') w := by
                simp only [Instr.lookup, Sem.run_bind, run_und hu, Result.andThen_ok, run_getObj h1 (fun _ _ _ => by simp), Sem.run_pure, checkKey_ok hkd hcond.1, findKey_ok hkd h2]
              refine ⟨_, ?_, hrun⟩
              cases ok with
              | true => exact .tuple _ _ (.cons _ _ _ _ h3 (.cons _ _ _ _ (.plain _ rfl) .nil))
              | false => exact h3
          · rename_i hf
            split at h
            · rename_i z hz
              split at h
              · rename_i hzp
                cases h
                obtain ⟨hH, me, c, o', h1, h2, h3⟩ := main _ hf hE
                refine ⟨hH, ?_⟩
                cases o' with
                | some q => exact h3.elim
                | none =>
                  have hzr : (zeroValue et).run P w = .ok z w := by
                    cases hi : P.info? et with
                    | none => simp [hi] at hz
                    | some i =>
                      have : i.zero = some z := by simpa [hi] using hz
                      simp [zeroValue, run_info hi, this]
                  have hrun : (Instr.lookup t (.map (some I.b)) k ok).run P w = .ok (if ok then .tuple #[z, .bool false] else z) w := by
                    simp only [Instr.lookup, Sem.run_bind, run_und hu, Result.andThen_ok, run_getObj h1 (fun _ _ _ => by simp), Sem.run_pure, checkKey_ok hkd hcond.1, findKey_ok hkd h2, hzr]
                  refine ⟨_, ?_, hrun⟩
                  cases ok with
                  | true => exact .tuple _ _ (.cons _ _ _ _ (VRel.ofC hzp) (.cons _ _ _ _ (.plain _ rfl) .nil))
                  | false => exact VRel.ofC hzp
              · cases h
            · cases h
          · cases h
        · cases h
      · cases h
    · cases h
  · cases h

theorem setNth_get {α : Type} : ∀ (l : List α) (i : Nat) (x : α) (j : Nat), (setNth l i x)[j]? = if j = i ∧ i < l.length then some x else l[j]?
  | [], i, x, j => by simp [setNth]
  | y :: l, 0, x, j => by cases j <;> simp [setNth]
  | y :: l, i + 1, x, j => by
    cases j with
    | zero => simp [setNth]
    | succ j => simp only [setNth, List.getElem?_cons_succ, setNth_get l i x j, List.length_cons]; simp only [Nat.add_right_cancel_iff, Nat.add_lt_add_iff_right]
theorem setNth_length {α : Type} : ∀ (l : List α) (i : Nat) (x : α), (setNth l i x).length = l.length
  | [], _, _ => rfl
  | _ :: _, 0, _ => rfl
  | _ :: l, i + 1, x => by simp [setNth, setNth_length l i x]

theorem same_bits {kd : TypeDesc} {a b : Value} (h : Instr.sameNow kd a b = some true) : b = a ∧ Instr.sameBits 10000 a a = true := by
  cases kd <;> cases a <;> cases b <;> simp [Instr.sameNow] at h <;> first | (rename_i p q; obtain ⟨p⟩ := p; obtain ⟨q⟩ := q; have e : p = q := eq_of_beq (show (p == q) = true from h); subst e; exact ⟨rfl, show (p == p) = true from beq_self_eq_true p⟩) | (simp [Instr.sameBits, h]; done)

theorem mapUpdate_ok {s : St} {t : TypeId} {x k v u rx rk rv : Value} {es : List Ev} (h : vmapUpdate P s t x k v = some (.val u es)) (hx : VRel γ x rx) (hk : VRel γ k rk) (hv : VRel γ v rv) (hR : Rel P N w0 γ H w) (hE : EvsOk H es H') :
    u = undef ∧ ∃ w', Rel P N w0 γ H' w' ∧ (Instr.mapUpdate t rx rk rv).run P w = .ok () w' := by
  unfold vmapUpdate at h
  split at h
  · rename_i kt et hu
    split at h
    · rename_i kd b hkd
      obtain ⟨I, hI, rfl⟩ := hx.map_inv
      split at h
      · rename_i ents hents
        split at h
        · rename_i hcond
          cases hk.of_plainV hcond.2
          split at h
          · rename_i j u0 hf
            cases h
            refine ⟨rfl, ?_⟩
            obtain ⟨H1, ⟨g1, rfl⟩, g2⟩ := hE
            cases g2
            obtain ⟨f1, me, c, f2, f3, f4⟩ := hR.at g1 hI
            obtain ⟨o', ho, hrel⟩ := find_ok (me := me.toList) hf ⟨by simpa using f3, fun j k v e hj he => f4 j k v e hj (by simpa using he)⟩
            cases o' with
            | none => exact hrel.elim
            | some q =>
              obtain ⟨j', u'⟩ := q
              obtain ⟨rfl, h2, h3, kk, h4, h5⟩ := hrel
              obtain ⟨rfl, hbits⟩ := same_bits h5
              have hj : j < ents.length := by simpa using (List.getElem?_eq_some_iff.1 h4).1
              have hjm : j < me.size := by omega
              have hkey : me[j].key = kk := (f4 j kk u0 me[j] (by simpa using h4) (by simp [hjm])).1
              have hold : ((me[j]?).map (·.key)).getD kk = kk := by simp [hjm, hkey]
              refine ⟨World.obj w I.b (.map (me.modify j fun e => { e with key := kk, val := rv }) c), ?_, ?_⟩
              · refine hR.obj g1 rfl hI f1 _ ⟨f1, _, c, obj_same ((hR.at g1 hI).lt rfl), by rw [setNth_length]; simpa using f3, ?_⟩
                intro i k' v' e hi he
                rw [setNth_get] at hi
                rw [Array.getElem?_modify] at he
                by_cases hij : i = j
                · subst hij
                  rw [if_pos ⟨rfl, hj⟩] at hi
                  cases hi
                  simp [hjm] at he
                  subst he
                  exact ⟨rfl, hv⟩
                · rw [if_neg (fun q => hij q.1)] at hi
                  rw [if_neg (Ne.symm hij)] at he
                  exact f4 i k' v' e hi he
              · simp only [Instr.mapUpdate, Sem.run_bind, run_und hu, Result.andThen_ok, run_getObj f2 (fun _ _ _ => by simp), checkKey_ok hkd hcond.1, findKey_ok hkd ho, hold, Instr.keyThatStays, hbits, if_true, Sem.run_pure, run_setObj f2 (fun _ _ _ => by simp)]
          · rename_i hf
            split at h
            · rename_i hkk
              cases h
              refine ⟨rfl, ?_⟩
              obtain ⟨H1, ⟨g1, rfl⟩, g2⟩ := hE
              cases g2
              obtain ⟨f1, me, c, f2, f3, f4⟩ := hR.at g1 hI
              obtain ⟨o', ho, hrel⟩ := find_ok (me := me.toList) hf ⟨by simpa using f3, fun j k v e hj he => f4 j k v e hj (by simpa using he)⟩
              cases o' with
              | some q => exact hrel.elim
              | none =>
                refine ⟨World.obj w I.b (.map (me.push { key := k, val := rv, born := c }) (c + 1)), ?_, ?_⟩
                · refine hR.obj g1 rfl hI f1 _ ⟨f1, _, c + 1, obj_same ((hR.at g1 hI).lt rfl), by simp [f3], ?_⟩
                  intro i k' v' e hi he
                  rw [List.getElem?_append] at hi
                  rw [Array.getElem?_push] at he
                  by_cases hij : i < ents.length
                  · rw [if_pos hij] at hi
                    rw [if_neg (by omega)] at he
                    exact f4 i k' v' e hi he
                  · rw [if_neg hij] at hi
                    have hi0 : i = ents.length := by
                      have := (List.getElem?_eq_some_iff.1 hi).1
                      simp at this; omega
                    subst hi0
                    rw [if_pos f3] at he
                    simp at hi he
                    obtain ⟨rfl, rfl⟩ := hi
                    subst he
                    exact ⟨rfl, hv⟩
                · simp only [Instr.mapUpdate, Sem.run_bind, run_und hu, Result.andThen_ok, run_getObj f2 (fun _ _ _ => by simp), checkKey_ok hkd hcond.1, findKey_ok hkd ho, run_setObj f2 (fun _ _ _ => by simp)]
            · cases h
          · cases h
        · cases h
      · cases h
    · cases h
  · cases h

theorem next_ok {s : St} {T : TypeId} {x v rx : Value} {es : List Ev} (h : vnext s x = some (.val v es)) (hx : VRel γ x rx) (hR : Rel P N w0 γ H w) (hE : EvsOk H es H') :
    ∃ w', VRel γ v v ∧ Rel P N w0 γ H' w' ∧ (Instr.next rx true T).run P w = .ok v w' := by
  unfold vnext at h
  split at h
  · rename_i b
    obtain ⟨I, hI, rfl⟩ := hx.pointer_inv
    split at h
    · rename_i st pos hst
      split at h
      · rename_i hlt
        cases h
        obtain ⟨H1, ⟨g1, rfl⟩, g2⟩ := hE
        cases g2
        obtain ⟨f1, f2, f3⟩ := hR.at g1 hI
        refine ⟨World.obj w I.b (.stringIter st (pos + (Utf8.decode st pos).2)), .tuple _ _ (VRels.plain rfl), hR.obj g1 rfl hI f2 _ ⟨f1, f2, obj_same ((hR.at g1 hI).lt rfl)⟩, ?_⟩
        rw [f1]
        simp only [Instr.next, Sem.run_bind, run_getObj f3 (fun _ _ _ => by simp), Result.andThen_ok, hlt, if_true, run_setObj f3 (fun _ _ _ => by simp), Sem.run_pure]
        rfl
      · rename_i hlt
        cases h
        obtain ⟨H1, ⟨g1, rfl⟩, g2⟩ := hE
        cases g2
        obtain ⟨f1, f2, f3⟩ := hR.at g1 hI
        refine ⟨w, .tuple _ _ (VRels.plain rfl), hR, ?_⟩
        rw [f1]
        simp only [Instr.next, Sem.run_bind, run_getObj f3 (fun _ _ _ => by simp), Result.andThen_ok, hlt, if_false, Sem.run_pure]
    · cases h
  · cases h

end
end Go.Proofs.YtdjoolpdabffjaaGreatDoor.Vr
