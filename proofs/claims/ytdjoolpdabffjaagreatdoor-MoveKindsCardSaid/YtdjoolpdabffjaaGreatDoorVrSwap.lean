/- Regions in any order. -/
import Derived.Test.YtdjoolpdabffjaaGreatDoorVrReg
namespace Go.Proofs.YtdjoolpdabffjaaGreatDoor.Vr
open Go Go.Region Go.RowKit

theorem upd_comm {α : Type} (H : Nat → Option α) {b c : Nat} (x y : α) (h : b ≠ c) : upd (upd H b x) c y = upd (upd H c y) b x := by
  funext j
  simp only [upd]
  by_cases h1 : j = c
  · have : j ≠ b := fun q => h (q.symm.trans h1)
    simp [h1, Ne.symm h]
  · simp [h1]

/-- What an event asks of its own block, and what it makes of it. -/
def Ask (e : Ev) (o : Option Slot) (o' : Option Slot) : Prop :=
  match e with
  | .rd _ off vs => (∃ x, o = some (.live x) ∧ (x.cells.drop off).take vs.length = vs) ∧ o' = o
  | .wr _ off vs => ∃ x, o = some (.live x) ∧ x.ro = false ∧ off + vs.length ≤ x.cells.length ∧ o' = some (.live { x with cells := overlay x.cells off vs })
  | .new _ x => o = none ∧ o' = some x
  | .kill _ => ∃ x, o = some (.live x) ∧ x.ro = false ∧ o' = some .dead
  | .info _ el ex => (∃ x, o = some (.live x) ∧ x.elem = el ∧ x.exact = ex) ∧ o' = o
  | .look _ x => o = some x ∧ o' = o
  | .obj _ x y => o = some x ∧ o' = some y

def updO (H : Hp) (b : Nat) (o : Option Slot) : Hp := fun j => if j = b then o else H j

theorem evOk_iff {H H' : Hp} {e : Ev} : EvOk H e H' ↔ Ask e (H e.block) (H' e.block) ∧ H' = updO H e.block (H' e.block) := by
  have same : ∀ b : Nat, updO H b (H b) = H := by
    intro b; funext j; simp only [updO]; split
    · rename_i h; rw [h]
    · rfl
  have up : ∀ (b : Nat) (x : Slot), updO H b (some x) = upd H b x := fun b x => rfl
  cases e with
  | rd b off vs =>
    constructor
    · rintro ⟨h, rfl⟩; exact ⟨⟨h, rfl⟩, (same b).symm⟩
    · rintro ⟨⟨h, h'⟩, e⟩; exact ⟨h, by rw [e]; show updO H b (H' b) = H; rw [show H' b = H b from h', same]⟩
  | info b el ex =>
    constructor
    · rintro ⟨h, rfl⟩; exact ⟨⟨h, rfl⟩, (same b).symm⟩
    · rintro ⟨⟨h, h'⟩, e⟩; exact ⟨h, by rw [e]; show updO H b (H' b) = H; rw [show H' b = H b from h', same]⟩
  | look b x =>
    constructor
    · rintro ⟨h, rfl⟩; exact ⟨⟨h, rfl⟩, (same b).symm⟩
    · rintro ⟨⟨h, h'⟩, e⟩; exact ⟨h, by rw [e]; show updO H b (H' b) = H; rw [show H' b = H b from h', same]⟩
  | wr b off vs =>
    constructor
    · rintro ⟨x, h1, h2, h3, rfl⟩; exact ⟨⟨x, h1, h2, h3, upd_same _ _ _⟩, by show upd H b _ = updO H b (upd H b _ b); rw [upd_same]; rfl⟩
    · rintro ⟨⟨x, h1, h2, h3, h4⟩, e⟩; exact ⟨x, h1, h2, h3, by rw [e]; show updO H b (H' b) = _; rw [show H' b = _ from h4, up]⟩
  | new b x =>
    constructor
    · rintro ⟨h1, rfl⟩; exact ⟨⟨h1, upd_same _ _ _⟩, by show upd H b _ = updO H b (upd H b _ b); rw [upd_same]; rfl⟩
    · rintro ⟨⟨h1, h4⟩, e⟩; exact ⟨h1, by rw [e]; show updO H b (H' b) = _; rw [show H' b = _ from h4, up]⟩
  | kill b =>
    constructor
    · rintro ⟨x, h1, h2, rfl⟩; exact ⟨⟨x, h1, h2, upd_same _ _ _⟩, by show upd H b _ = updO H b (upd H b _ b); rw [upd_same]; rfl⟩
    · rintro ⟨⟨x, h1, h2, h4⟩, e⟩; exact ⟨x, h1, h2, by rw [e]; show updO H b (H' b) = _; rw [show H' b = _ from h4, up]⟩
  | obj b x y =>
    constructor
    · rintro ⟨h1, rfl⟩; exact ⟨⟨h1, upd_same _ _ _⟩, by show upd H b _ = updO H b (upd H b _ b); rw [upd_same]; rfl⟩
    · rintro ⟨⟨h1, h4⟩, e⟩; exact ⟨h1, by rw [e]; show updO H b (H' b) = _; rw [show H' b = _ from h4, up]⟩

/-- Events on different blocks. -/
theorem swap_ne {H H1 H2 : Hp} {e f : Ev} (h1 : EvOk H e H1) (h2 : EvOk H1 f H2) (hne : e.block ≠ f.block) : ∃ K, EvOk H f K ∧ EvOk K e H2 := by
  obtain ⟨a1, a2⟩ := evOk_iff.1 h1
  obtain ⟨b1, b2⟩ := evOk_iff.1 h2
  have hf : H1 f.block = H f.block := by rw [a2]; simp [updO, Ne.symm hne]
  have he : H2 e.block = H1 e.block := by rw [b2]; simp [updO, hne]
  refine ⟨updO H f.block (H2 f.block), evOk_iff.2 ⟨?_, ?_⟩, evOk_iff.2 ⟨?_, ?_⟩⟩
  · rw [← hf]; simpa [updO] using b1
  · simp [updO]
  · have : updO H f.block (H2 f.block) e.block = H e.block := by simp [updO, hne]
    rw [this, he]; exact a1
  · rw [he]
    funext j
    rw [b2, a2]
    simp only [updO]
    by_cases c1 : j = f.block
    · have : j ≠ e.block := fun q => hne (q.symm.trans c1)
      simp [c1, Ne.symm hne]
    · by_cases c2 : j = e.block
      · simp [c2, hne]
      · simp [c1, c2]

theorem overlay_comm {cs vs us : List Value} {o p : Nat} (h1 : o + vs.length ≤ cs.length) (h2 : p + us.length ≤ cs.length) (h : o + vs.length ≤ p ∨ p + us.length ≤ o) : overlay (overlay cs o vs) p us = overlay (overlay cs p us) o vs := by
  apply List.ext_getElem?
  intro j
  rw [overlay_get _ _ _ _ (by rw [overlay_length _ _ _ h1]; exact h2), overlay_get _ _ _ _ h1, overlay_get _ _ _ _ (by rw [overlay_length _ _ _ h2]; exact h1), overlay_get _ _ _ _ h2]
  by_cases c1 : j < o <;> by_cases c2 : j < o + vs.length <;> by_cases c3 : j < p <;> by_cases c4 : j < p + us.length <;> simp only [c1, c2, c3, c4, if_true, if_false] <;> omega

theorem read_overlay {cs vs us : List Value} {o p : Nat} (h2 : p + us.length ≤ cs.length) (h : o + vs.length ≤ p ∨ p + us.length ≤ o) : ((overlay cs p us).drop o).take vs.length = (cs.drop o).take vs.length := by
  apply List.ext_getElem?
  intro j
  simp only [List.getElem?_take, List.getElem?_drop]
  by_cases c : j < vs.length
  · rw [if_pos c, if_pos c, overlay_get _ _ _ _ h2]
    rcases h with h | h
    · rw [if_pos (by omega)]
    · rw [if_neg (by omega), if_neg (by omega)]
  · rw [if_neg c, if_neg c]

theorem swap1 {H H1 H2 : Hp} {e f : Ev} (h1 : EvOk H e H1) (h2 : EvOk H1 f H2) (hc : compat1 e f = true) : ∃ K, EvOk H f K ∧ EvOk K e H2 := by
  by_cases hb : e.block = f.block
  · cases e with
    | rd b o vs =>
      cases f with
      | rd c p us => obtain ⟨x1, rfl⟩ := h1; obtain ⟨y1, rfl⟩ := h2; exact ⟨_, ⟨y1, rfl⟩, ⟨x1, rfl⟩⟩
      | info c el ex => obtain ⟨x1, rfl⟩ := h1; obtain ⟨y1, rfl⟩ := h2; exact ⟨_, ⟨y1, rfl⟩, ⟨x1, rfl⟩⟩
      | wr c p us =>
        simp only [Ev.block] at hb; subst hb
        simp only [compat1, bne_self_eq_false, Bool.false_or, Bool.or_eq_true, decide_eq_true_eq] at hc
        obtain ⟨⟨x, hx, hr⟩, rfl⟩ := h1
        obtain ⟨y, hy, g1, g2, rfl⟩ := h2
        rw [hx] at hy; cases hy
        exact ⟨_, ⟨x, hx, g1, g2, rfl⟩, ⟨_, upd_same _ _ _, by show ((overlay x.cells p us).drop o).take vs.length = vs; rw [read_overlay g2 hc]; exact hr⟩, rfl⟩
      | _ => simp only [Ev.block] at hb; simp [compat1, Ev.block, hb] at hc
    | info b el ex =>
      cases f with
      | rd c p us => obtain ⟨x1, rfl⟩ := h1; obtain ⟨y1, rfl⟩ := h2; exact ⟨_, ⟨y1, rfl⟩, ⟨x1, rfl⟩⟩
      | info c el ex => obtain ⟨x1, rfl⟩ := h1; obtain ⟨y1, rfl⟩ := h2; exact ⟨_, ⟨y1, rfl⟩, ⟨x1, rfl⟩⟩
      | wr c p us =>
        simp only [Ev.block] at hb; subst hb
        obtain ⟨⟨x, hx, hr, hr'⟩, rfl⟩ := h1
        obtain ⟨y, hy, g1, g2, rfl⟩ := h2
        rw [hx] at hy; cases hy
        exact ⟨_, ⟨x, hx, g1, g2, rfl⟩, ⟨_, upd_same _ _ _, hr, hr'⟩, rfl⟩
      | _ => simp only [Ev.block] at hb; simp [compat1, Ev.block, hb] at hc
    | look b x =>
      cases f with
      | look c y => obtain ⟨x1, rfl⟩ := h1; obtain ⟨y1, rfl⟩ := h2; exact ⟨_, ⟨y1, rfl⟩, ⟨x1, rfl⟩⟩
      | _ => simp only [Ev.block] at hb; simp [compat1, Ev.block, hb] at hc
    | wr b o vs =>
      cases f with
      | rd c p us =>
        simp only [Ev.block] at hb; subst hb
        simp only [compat1, bne_self_eq_false, Bool.false_or, Bool.or_eq_true, decide_eq_true_eq] at hc
        obtain ⟨x, hx, g1, g2, rfl⟩ := h1
        obtain ⟨⟨y, hy, hr⟩, rfl⟩ := h2
        rw [upd_same] at hy; cases hy
        refine ⟨H, ⟨⟨x, hx, ?_⟩, rfl⟩, ⟨x, hx, g1, g2, rfl⟩⟩
        have hr' : ((overlay x.cells o vs).drop p).take us.length = us := hr
        rw [read_overlay g2 hc.symm] at hr'
        exact hr'
      | info c el ex =>
        simp only [Ev.block] at hb; subst hb
        obtain ⟨x, hx, g1, g2, rfl⟩ := h1
        obtain ⟨⟨y, hy, hr, hr'⟩, rfl⟩ := h2
        rw [upd_same] at hy; cases hy
        exact ⟨H, ⟨⟨x, hx, hr, hr'⟩, rfl⟩, ⟨x, hx, g1, g2, rfl⟩⟩
      | _ => simp only [Ev.block] at hb; simp [compat1, Ev.block, hb] at hc
    | _ => cases f <;> (simp only [Ev.block] at hb; simp [compat1, Ev.block, hb] at hc)
  · exact swap_ne h1 h2 hb

theorem swapL {e : Ev} : ∀ {fs : List Ev} {H H1 H2 : Hp}, EvOk H e H1 → EvsOk H1 fs H2 → (fs.all fun f => compat1 e f) = true → ∃ K, EvsOk H fs K ∧ EvOk K e H2
  | [], H, H1, H2, h1, h2, _ => by cases h2; exact ⟨H, rfl, h1⟩
  | f :: fs, H, H1, H2, h1, ⟨H3, h3, h4⟩, hc => by
    simp only [List.all_cons, Bool.and_eq_true] at hc
    obtain ⟨K, k1, k2⟩ := swap1 h1 h3 hc.1
    obtain ⟨K', k3, k4⟩ := swapL k2 h4 hc.2
    exact ⟨K', ⟨K, k1, k3⟩, k4⟩

theorem swapLL : ∀ {es fs : List Ev} {H H1 H2 : Hp}, EvsOk H es H1 → EvsOk H1 fs H2 → compatL es fs = true → ∃ K, EvsOk H fs K ∧ EvsOk K es H2
  | [], fs, H, H1, H2, h1, h2, _ => by cases h1; exact ⟨H2, h2, rfl⟩
  | e :: es, fs, H, H1, H2, ⟨H3, h3, h4⟩, h2, hc => by
    simp only [compatL, List.all_cons, Bool.and_eq_true] at hc
    obtain ⟨K, k1, k2⟩ := swapLL h4 h2 hc.2
    obtain ⟨K', k3, k4⟩ := swapL h3 k1 hc.1
    exact ⟨K', k3, ⟨K, k4, k2⟩⟩

/-! ### Operations -/
theorem eff_congr {P : Program} {CO : CallP} {ops : Array Oper} {a a' : AV} {i : Nat} {v : Value} {es : List Ev} (hsel : noSel ops = true) (hn : a'.n = a.n) (hg : a'.g = a.g)
    (h : ∀ o, ops[i]? = some o → ∀ t ∈ o.looksAt ops, a'.f t = a.f t) (he : Eff P CO ops a i v es) : Eff P CO ops a' i v es := by
  obtain ⟨o, ho, he⟩ := he
  have hl := h o ho
  have hev : ∀ x ∈ o.op.operands, a'.eval x = a.eval x := by
    intro x hx
    cases x with
    | tmp t => exact congrArg some (hl t (by unfold Oper.looksAt; exact List.mem_append_left _ (List.mem_filterMap.2 ⟨.tmp t, by simpa using hx, rfl⟩)))
    | const c => rfl
    | global g => simp only [AV.eval, hg]
    | func f => rfl
  have hw : a'.wanted ops o = a.wanted ops o := by
    unfold AV.wanted Region.wanted
    cases hgd : o.guard with
    | none => rfl
    | some p =>
      obtain ⟨j, want⟩ := p
      simp only
      have : a'.yes ops j = a.yes ops j := by
        unfold AV.yes
        cases hd : (ops[j]?).bind (·.dst) with
        | none => rfl
        | some d =>
          have := hl d (by unfold Oper.looksAt; rw [hgd]; exact List.mem_append_right _ (by simp [hd]))
          simp only [Option.bind_some, hn, this]
      rw [this]
  have hs : ∀ cs b, o.op ≠ .select cs b := by
    intro cs b q
    have hm : o ∈ ops.toList := by
      have := Array.mem_of_getElem? ho
      simpa using this
    unfold noSel at hsel
    have := List.all_eq_true.1 hsel o hm
    rw [q] at this
    cases this
  have hmap : o.op.operands.toList.map a'.eval = o.op.operands.toList.map a.eval := List.map_congr_left fun x hx => hev x (by simpa using hx)
  have hE : execOp (fun x => (a'.eval x).getD undef) o = execOp (fun x => (a.eval x).getD undef) o := execOp_congr o hs fun x hx => by rw [hev x hx]
  refine ⟨o, ho, ?_⟩
  rw [hw, hmap, hE]
  exact he

theorem AV.put_f {a a' : AV} {dst : Option Tmp} {v : Value} (h : a.put dst v = some a') : a'.n = a.n ∧ a'.g = a.g ∧ ∀ t, dst ≠ some t → a'.f t = a.f t := by
  cases dst with
  | none => cases h; exact ⟨rfl, rfl, fun _ _ => rfl⟩
  | some d =>
    simp only [AV.put] at h
    split at h
    · cases h
      refine ⟨rfl, rfl, fun t ht => ?_⟩
      have : t ≠ d := fun q => ht (by rw [q])
      simp [this]
    · cases h

theorem AV.put_comm {a a1 a2 : AV} {d e : Option Tmp} {v u : Value} (h1 : a.put d v = some a1) (h2 : a1.put e u = some a2) (hne : ∀ t, d = some t → e ≠ some t) : ∃ b, a.put e u = some b ∧ b.put d v = some a2 := by
  cases d with
  | none =>
    cases h1
    exact ⟨a2, h2, rfl⟩
  | some d =>
    cases e with
    | none => cases h2; exact ⟨a, rfl, h1⟩
    | some e =>
      have hde : d ≠ e := fun q => hne d rfl (by rw [q])
      simp only [AV.put] at h1
      split at h1
      · rename_i hd
        cases h1
        simp only [AV.put] at h2
        split at h2
        · rename_i he
          cases h2
          refine ⟨_, by simp only [AV.put, he, if_true]; rfl, ?_⟩
          simp only [AV.put, hd, if_true, Option.some.injEq, AV.mk.injEq, true_and]
          funext t
          by_cases c1 : t = d
          · simp [c1, hde]
          · simp [c1]
        · cases h2
      · cases h1

theorem script_swap {P : Program} {CO : CallP} {ops : Array Oper} {a a2 : AV} {H H2 : Hp} {i j : Nat} {es fs : List Ev} {rest : List (Nat × List Ev)} (hsel : noSel ops = true)
    (h : Script P CO ops a H ((i, es) :: (j, fs) :: rest) a2 H2) (hap : ∀ x y, ops[i]? = some x → ops[j]? = some y → x.apart ops y = true) (hc : compatL es fs = true) :
    Script P CO ops a H ((j, fs) :: (i, es) :: rest) a2 H2 := by
  cases h with
  | cons _ a1 _ _ H1 _ _ v _ _ he hE hp h =>
    cases h with
    | cons _ a3 _ _ H3 _ _ u _ _ he' hE' hp' h =>
      obtain ⟨x, hx, _⟩ := id he
      obtain ⟨y, hy, _⟩ := id he'
      obtain ⟨p1, p2, p3⟩ := Oper.apart_spec (hap x y hx hy)
      have dx : dstOf ops i = x.dst := by simp [dstOf, hx]
      have dy : dstOf ops j = y.dst := by simp [dstOf, hy]
      obtain ⟨b, hb1, hb2⟩ := AV.put_comm hp hp' (by rw [dx, dy]; exact p2)
      obtain ⟨K, k1, k2⟩ := swapLL hE hE' hc
      obtain ⟨n1, g1, f1⟩ := AV.put_f hp
      obtain ⟨n2, g2, f2⟩ := AV.put_f hb1
      have e1 : Eff P CO ops a j u fs := eff_congr hsel n1.symm g1.symm (fun o ho t ht => by
        rw [hy] at ho; cases ho
        exact (f1 t (fun q => p1 t (by rw [← dx]; exact q) ht)).symm) he'
      have e2 : Eff P CO ops b i v es := eff_congr hsel n2 g2 (fun o ho t ht => by
        rw [hx] at ho; cases ho
        exact f2 t (fun q => p3 t (by rw [← dy]; exact q) ht)) he
      exact .cons _ b _ _ K _ _ u _ _ e1 k1 hb1 (.cons _ a3 _ _ H3 _ _ v _ _ e2 k2 hb2 h)

/-- May the two change places? -/
def Free (ops : Array Oper) (x y : Nat × List Ev) : Prop := (∀ o o', ops[x.1]? = some o → ops[y.1]? = some o' → o.apart ops o' = true) ∧ compatL x.2 y.2 = true

theorem script_front {P : Program} {CO : CallP} {ops : Array Oper} (hsel : noSel ops = true) {y : Nat × List Ev} {rest : List (Nat × List Ev)} {a2 : AV} {H2 : Hp} : ∀ {l : List (Nat × List Ev)} {a : AV} {H : Hp},
    Script P CO ops a H (l ++ y :: rest) a2 H2 → (∀ x ∈ l, Free ops x y) → Script P CO ops a H (y :: (l ++ rest)) a2 H2
  | [], a, H, h, _ => h
  | x :: l, a, H, h, hf => by
    have h' : Script P CO ops a H (x :: (l ++ y :: rest)) a2 H2 := h
    cases h' with
    | cons _ a1 _ _ H1 _ i v es _ he hE hp hr =>
      have := script_front hsel hr (fun z hz => hf z (by simp [hz]))
      obtain ⟨f1, f2⟩ := hf (i, es) (by simp)
      exact script_swap hsel (.cons _ a1 _ _ H1 _ _ v _ _ he hE hp this) f1 f2

end Go.Proofs.YtdjoolpdabffjaaGreatDoor.Vr
