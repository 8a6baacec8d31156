/- Regions: in their text's order, and in any order. -/
import Derived.Test.YtdjoolpdabffjaaGreatDoorVrEvs
namespace Go.Proofs.YtdjoolpdabffjaaGreatDoor.Vr
open Go Go.Region Go.RowKit

/-- The virtual temporaries, as a function. -/
structure AV where
  n : Nat
  g : Nat
  f : Tmp → Value

def AV.eval (a : AV) : Operand → Option Value
  | .tmp t => some (a.f t)
  | .const v => if plainC v then some v else none
  | .global g => if g < a.g then some (.pointer (some ⟨g, 0, none⟩)) else none
  | .func f => some (.func (.func f) #[] #[])

def AV.put (a : AV) (dst : Option Tmp) (v : Value) : Option AV :=
  match dst with
  | none => some a
  | some d => if d < a.n then some { a with f := fun t => if t = d then v else a.f t } else none

def AV.yes (ops : Array Oper) (a : AV) (j : Nat) : Option Bool :=
  match ((ops[j]?).bind (·.dst)).bind fun d => if d < a.n then some (a.f d) else none with
  | some (.bool b) => some b
  | _ => none

def AV.wanted (ops : Array Oper) (a : AV) (o : Oper) : Bool := Region.wanted o (a.yes ops)

noncomputable def VA.abs (a : VA) : AV := ⟨a.n, a.g, fun t => (a.t.get t).getD undef⟩
theorem abs_eval (a : VA) (x : Operand) : a.abs.eval x = a.eval x := by
  cases x with
  | tmp t =>
    show some ((a.t.get t).getD undef) = _
    simp only [VA.eval]
    cases a.t.get t <;> rfl
  | _ => rfl
theorem abs_put {a a' : VA} {dst : Option Tmp} {v : Value} (h : a.put dst v = some a') : a.abs.put dst v = some a'.abs := by
  cases dst with
  | none => cases h; rfl
  | some d =>
    simp only [VA.put] at h
    split at h
    · rename_i hd
      cases h
      simp only [AV.put, VA.abs, hd.1, if_true, Option.some.injEq, AV.mk.injEq, true_and]
      funext t
      rw [get_put' _ _ _ _ hd.2]
      split <;> rfl
    · cases h
theorem abs_wanted (ops : Array Oper) (a : VA) (o : Oper) : a.abs.wanted ops o = wantedV ops a o := rfl

/-- The virtual temporaries and the real ones. -/
structure ARel (G : Nat) (γ : Gm) (a : AV) (ra : Act) : Prop where
  size : ra.tmps.size = a.n
  get : ∀ t, VRel γ (a.f t) (ra.tmps.getD t undef)
  defers : ra.defers = []
  glob : a.g = G
  names : ∀ k, k < G → ∃ I, γ k = some I ∧ I.b = k ∧ I.o = 0

theorem ARel.mono {G : Nat} {γ γ' : Gm} {a : AV} {ra : Act} (h : ARel G γ a ra) (e : Ext γ γ') : ARel G γ' a ra :=
  ⟨h.size, fun t => (h.get t).mono e, h.defers, h.glob, fun k hk => let ⟨I, h1, h2⟩ := h.names k hk; ⟨I, e _ _ h1, h2⟩⟩

theorem ARel.eval {G : Nat} {γ : Gm} {a : AV} {ra : Act} (h : ARel G γ a ra) {x : Operand} {v : Value} (hx : a.eval x = some v) : VRel γ v (ra.eval x) := by
  cases x with
  | tmp t => cases hx; exact h.get t
  | const c =>
    simp only [AV.eval] at hx
    split at hx
    · rename_i hp; cases hx; exact VRel.ofC hp
    · cases hx
  | global g =>
    simp only [AV.eval] at hx
    split at hx
    · rename_i hg
      cases hx
      obtain ⟨I, hI, hb, ho⟩ := h.names g (by rw [← h.glob]; exact hg)
      have := VRel.pointer g 0 I hI
      rw [hb, ho] at this
      exact this
    · cases hx
  | func f => cases hx; exact .func f _ _ _ _ .nil .nil

theorem ARel.put {G : Nat} {γ : Gm} {a a' : AV} {ra : Act} (h : ARel G γ a ra) {dst : Option Tmp} {v r : Value} (hp : a.put dst v = some a') (hv : VRel γ v r) : ARel G γ a' (ra.put dst r) := by
  cases dst with
  | none => cases hp; exact h
  | some d =>
    simp only [AV.put] at hp
    split at hp
    · rename_i hd
      cases hp
      refine ⟨by simpa [Act.put] using h.size, fun t => ?_, h.defers, h.glob, h.names⟩
      simp only [Act.put, Array.getD_eq_getD_getElem?, Array.getElem?_setIfInBounds]
      by_cases e : t = d
      · subst e
        rw [if_pos rfl, if_pos rfl, if_pos (by rw [h.size]; exact hd)]
        exact hv
      · rw [if_neg e, if_neg (Ne.symm e)]
        have := h.get t
        rwa [Array.getD_eq_getD_getElem?] at this
    · cases hp

theorem VRel.bool_iff {γ : Gm} {v r : Value} (h : VRel γ v r) (b : Bool) : v = .bool b ↔ r = .bool b := by
  constructor
  · rintro rfl; exact h.of_plainV rfl
  · rintro rfl; cases h; rfl

theorem ARel.yes {G : Nat} {γ : Gm} {a : AV} {ra : Act} (h : ARel G γ a ra) (ops : Array Oper) (j : Nat) : yielded ops ra.tmps j = a.yes ops j := by
  unfold yielded AV.yes
  cases hd : (ops[j]?).bind (·.dst) with
  | none => rfl
  | some d =>
    simp only [Option.bind_some]
    by_cases hlt : d < a.n
    · have hlt' : d < ra.tmps.size := by rw [h.size]; exact hlt
      have hg := h.get d
      rw [if_pos hlt]
      have e1 : ra.tmps[d]? = some ra.tmps[d] := Array.getElem?_eq_getElem hlt'
      rw [e1]
      have e2 : ra.tmps.getD d undef = ra.tmps[d] := by simp [Array.getD, hlt']
      rw [e2] at hg
      generalize ra.tmps[d] = r at hg
      generalize a.f d = v at hg
      cases v with
      | bool b => rw [(hg.bool_iff b).1 rfl]
      | _ =>
        cases r with
        | bool b => exact absurd ((hg.bool_iff b).2 rfl) (by simp)
        | _ => rfl
    · have hlt' : ¬ d < ra.tmps.size := by rw [h.size]; exact hlt
      rw [if_neg hlt, Array.getElem?_eq_none (Nat.le_of_not_lt hlt')]

theorem ARel.wanted {G : Nat} {γ : Gm} {a : AV} {ra : Act} (h : ARel G γ a ra) (ops : Array Oper) (o : Oper) : Region.wanted o (yielded ops ra.tmps) = a.wanted ops o := by
  unfold AV.wanted
  rw [show yielded ops ra.tmps = a.yes ops from funext (h.yes ops)]

abbrev CallP := FuncId → List Value → Value → List Ev → Prop

/-- What operation i does. -/
def Eff (P : Program) (CO : CallP) (ops : Array Oper) (a : AV) (i : Nat) (v : Value) (es : List Ev) : Prop :=
  ∃ o, ops[i]? = some o ∧ ((a.wanted ops o = false ∧ v = undef ∧ es = []) ∨ (a.wanted ops o = true ∧ ∃ s xs, seqO (o.op.operands.toList.map a.eval) = some xs ∧
    (vopB P (execOp (fun x => (a.eval x).getD undef) o) xs s o = some (.val v es) ∨ ∃ f args, vopB P (execOp (fun x => (a.eval x).getD undef) o) xs s o = some (.call f args) ∧ CO f args v es)))

def dstOf (ops : Array Oper) (i : Nat) : Option Tmp := (ops[i]?).bind (·.dst)

inductive Script (P : Program) (CO : CallP) (ops : Array Oper) : AV → Hp → List (Nat × List Ev) → AV → Hp → Prop where
  | nil (a : AV) (H : Hp) : Script P CO ops a H [] a H
  | cons (a a1 a2 : AV) (H H1 H2 : Hp) (i : Nat) (v : Value) (es : List Ev) (rest : List (Nat × List Ev)) (he : Eff P CO ops a i v es) (hE : EvsOk H es H1) (hp : a.put (dstOf ops i) v = some a1)
      (h : Script P CO ops a1 H1 rest a2 H2) : Script P CO ops a H ((i, es) :: rest) a2 H2

def CallOk (P : Program) (N : Nat) (w0 : World) (G : Nat) : CallP := fun f args v es =>
  ∀ (γ : Gm) (H H' : Hp) (w : World) (rargs : Array Value), Rel P N w0 γ H w → (∀ k, k < G → ∃ I, γ k = some I ∧ I.b = k ∧ I.o = 0) → VRels γ args rargs.toList → EvsOk H es H' →
    Calls P f rargs w fun e w' => ∃ γ' r, e = .returned r ∧ Ext γ γ' ∧ VRel γ' v r ∧ Rel P N w0 γ' H' w'

/-- One operation of a region, for real. -/
theorem eff_wp {P : Program} {N : Nat} {w0 : World} {G : Nat} {ops : Array Oper} {Q : Exit → Act → World → Prop} {K : Act → World → Prop} {a a1 : AV} {i : Nat} {v : Value} {es : List Ev} {H H1 : Hp} {γ : Gm} {ra : Act} {w : World}
    (he : Eff P (CallOk P N w0 G) ops a i v es) (hE : EvsOk H es H1) (hp : a.put (dstOf ops i) v = some a1) (hA : ARel G γ a ra) (hR : Rel P N w0 γ H w) (hsel : noSel ops = true)
    (hK : ∀ γ' ra' w', Ext γ γ' → ARel G γ' a1 ra' → Rel P N w0 γ' H1 w' → K ra' w') : wpOp P ops Q i K ra w := by
  obtain ⟨o, ho, he⟩ := he
  have hd : dstOf ops i = o.dst := by simp [dstOf, ho]
  rw [hd] at hp
  unfold wpOp
  simp only [ho, hA.wanted]
  rcases he with ⟨hw, rfl, rfl⟩ | ⟨hw, s, xs, hxs, he⟩
  · cases hE
    rw [hw]
    exact hK γ _ w (Ext.refl γ) (hA.put hp VRel.undef) hR
  · rw [hw]
    simp only [if_true]
    refine .inl ?_
    have hs : ∀ cs b, o.op ≠ .select cs b := by
      intro cs b q
      have hm : o ∈ ops.toList := by
        have := Array.mem_of_getElem? ho
        simpa using this
      unfold noSel at hsel
      have := List.all_eq_true.1 hsel o hm
      rw [q] at this
      cases this
    have hrel := (seqO_ok (γ := γ) (ρ := ra.eval) hxs (fun x _ v hv => hA.eval hv)).1
    have hEq : xs.all plainC = true → execOp ra.eval o = execOp (fun x => (a.eval x).getD undef) o := by
      intro hall
      refine execOp_congr o hs fun x hx => ?_
      have key : ∀ (l : List Operand) (xs : List Value), seqO (l.map a.eval) = some xs → xs.all plainC = true → ∀ x ∈ l, ∃ v, a.eval x = some v ∧ plainC v = true := by
        intro l
        induction l with
        | nil => intro xs _ _ x hx; cases hx
        | cons y l ih =>
          intro xs h hp x hx
          simp only [List.map_cons] at h
          cases hy : a.eval y with
          | none => simp [hy, seqO] at h
          | some v =>
            simp only [hy, seqO] at h
            split at h
            · rename_i ys hys
              cases h
              simp only [List.all_cons, Bool.and_eq_true] at hp
              rcases List.mem_cons.1 hx with rfl | hx
              · exact ⟨v, hy, hp.1⟩
              · exact ih ys hys hp.2 x hx
            · cases h
      obtain ⟨u, hu, hpu⟩ := key _ _ hxs hall x (by simpa using hx)
      rw [hu, Option.getD_some]
      exact (hA.eval hu).of_plainC hpu
    unfold Oper.wp
    rcases he with he | ⟨f, args, he, hco⟩
    · obtain ⟨γ', nx, r, w', e, hv, hR', hrun, hnx⟩ := vopB_val he hrel hEq hR hE
      rw [hrun]
      rcases hnx with rfl | ⟨rfl, rfl⟩
      · exact hK γ' _ w' e ((hA.mono e).put hp hv) hR'
      · exact hK γ' _ w' e ((hA.mono e).put hp hv) hR'
    · obtain ⟨rargs, hargs, hrun⟩ := vopB_call (w := w) he hrel
      rw [hrun]
      refine (hco γ H H1 w rargs hR hA.names hargs hE).mono ?_
      rintro e w' ⟨γ', r, rfl, he, hv, hR'⟩
      exact hK γ' _ w' he ((hA.mono he).put hp hv) hR'

/-- A region in its text's order. -/
theorem script_ops {P : Program} {N : Nat} {w0 : World} {G : Nat} {ops : Array Oper} {Q : Exit → Act → World → Prop} (hsel : noSel ops = true) {a a2 : AV} {H H2 : Hp} {ev : List (Nat × List Ev)} (h : Script P (CallOk P N w0 G) ops a H ev a2 H2) :
    ∀ {γ : Gm} {ra : Act} {w : World}, ARel G γ a ra → Rel P N w0 γ H w → (∀ γ' ra' w', Ext γ γ' → ARel G γ' a2 ra' → Rel P N w0 γ' H2 w' → Q .normal ra' w') → wpOps P ops Q (ev.map (·.1)) ra w := by
  induction h with
  | nil a H => intro γ ra w hA hR hQ; exact hQ γ ra w (Ext.refl γ) hA hR
  | cons a a1 a2 H H1 H2 i v es rest he hE hp h ih =>
    intro γ ra w hA hR hQ
    simp only [List.map_cons]
    rw [wpOps_cons]
    exact eff_wp he hE hp hA hR hsel fun γ' ra' w' e hA' hR' => ih hA' hR' fun γ'' ra'' w'' e' => hQ γ'' ra'' w'' (e.trans e')

end Go.Proofs.YtdjoolpdabffjaaGreatDoor.Vr
