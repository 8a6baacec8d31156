/- The virtual run's memory and the real one. -/
import Derived.Test.YtdjoolpdabffjaaGreatDoorVrDef
import Derived.Laws.CopyRow
import Derived.Deep.MidRow
namespace Go.Proofs.YtdjoolpdabffjaaGreatDoor.Vr
open Go Go.Region Go.RowKit

theorem Tr.get_put {α : Type} : ∀ (f : Nat) (t : Tr α) (k : Nat) (x : α) (j : Nat), k + 1 < 2 ^ f → (Tr.put f t k x).get j = if j = k then some x else t.get j
  | 0, _, k, _, _, h => by simp at h
  | f + 1, .e, 0, x, j, _ => by
    cases j with
    | zero => simp [Tr.put_e0, Tr.get_0]
    | succ m =>
      simp only [Tr.put_e0, Tr.get_s, Tr.get_e, Nat.add_one_ne_zero, if_false]
      split <;> rfl
  | f + 1, .n v l r, 0, x, j, _ => by
    cases j with
    | zero => simp [Tr.put_n0, Tr.get_0]
    | succ m => simp [Tr.put_n0, Tr.get_s]
  | f + 1, .e, m + 1, x, j, h => by
    have hb : m / 2 + 1 < 2 ^ f := by rw [Nat.pow_succ] at h; omega
    simp only [Tr.put_es]
    split
    · rename_i h0
      cases j with
      | zero => simp [Tr.get_0, Tr.get_e]
      | succ i =>
        simp only [Tr.get_s, Tr.get_e]
        split
        · rename_i h1
          rw [Tr.get_put f .e (m / 2) x (i / 2) hb]
          by_cases e : i = m
          · simp [e]
          · rw [if_neg (by omega), if_neg (by omega)]; rfl
        · rename_i k h1
          rw [if_neg (by omega)]
    · rename_i k0 h0
      cases j with
      | zero => simp [Tr.get_0, Tr.get_e]
      | succ i =>
        simp only [Tr.get_s, Tr.get_e]
        split
        · rename_i h1
          rw [if_neg (by omega)]
        · rename_i k h1
          rw [Tr.get_put f .e (m / 2) x (i / 2) hb]
          by_cases e : i = m
          · simp [e]
          · rw [if_neg (by omega), if_neg (by omega)]; rfl
  | f + 1, .n v l r, m + 1, x, j, h => by
    have hb : m / 2 + 1 < 2 ^ f := by rw [Nat.pow_succ] at h; omega
    simp only [Tr.put_ns]
    split
    · rename_i h0
      cases j with
      | zero => simp [Tr.get_0]
      | succ i =>
        simp only [Tr.get_s]
        split
        · rename_i h1
          rw [Tr.get_put f l (m / 2) x (i / 2) hb]
          by_cases e : i = m
          · simp [e]
          · rw [if_neg (by omega), if_neg (by omega)]
        · rename_i k h1
          rw [if_neg (by omega)]
    · rename_i k0 h0
      cases j with
      | zero => simp [Tr.get_0]
      | succ i =>
        simp only [Tr.get_s]
        split
        · rename_i h1
          rw [if_neg (by omega)]
        · rename_i k h1
          rw [Tr.get_put f r (m / 2) x (i / 2) hb]
          by_cases e : i = m
          · simp [e]
          · rw [if_neg (by omega), if_neg (by omega)]

theorem get_put' {α : Type} (t : Tr α) (k : Nat) (x : α) (j : Nat) (h : k < top) : (Tr.put bits t k x).get j = if j = k then some x else t.get j :=
  Tr.get_put bits t k x j (by unfold bits; unfold top at h; omega)

/-- Where a virtual block lies: in which block, from where on, an element's cells, how many elements more there are, its cells. -/
structure Im where
  b : Nat
  o : Nat
  q : Nat
  e : Nat
  s : Nat

abbrev Gm := Nat → Option Im
abbrev Hp := Nat → Option Slot
def Ext (γ γ' : Gm) : Prop := ∀ β I, γ β = some I → γ' β = some I
theorem Ext.refl (γ : Gm) : Ext γ γ := fun _ _ h => h
theorem Ext.trans {γ γ' γ'' : Gm} (h : Ext γ γ') (h' : Ext γ' γ'') : Ext γ γ'' := fun β I e => h' β I (h β I e)
def upd {α : Type} (H : Nat → Option α) (b : Nat) (x : α) : Nat → Option α := fun j => if j = b then some x else H j
theorem upd_same {α : Type} (H : Nat → Option α) (b : Nat) (x : α) : upd H b x b = some x := by simp [upd]
theorem upd_ne {α : Type} (H : Nat → Option α) {b j : Nat} (x : α) (h : j ≠ b) : upd H b x j = H j := by simp [upd, h]
theorem Ext.upd {γ : Gm} {β : Nat} (h : γ β = none) (I : Im) : Ext γ (upd γ β I) := fun j J e => by
  by_cases hj : j = β
  · subst hj; rw [h] at e; cases e
  · rw [upd_ne γ I hj]; exact e

mutual
inductive VRel (γ : Gm) : Value → Value → Prop where
  | plain (v : Value) (h : plainV v = true) : VRel γ v v
  | pointer (β off : Nat) (I : Im) (h : γ β = some I) : VRel γ (.pointer (some ⟨β, off, none⟩)) (.pointer (some ⟨I.b, I.o + off, none⟩))
  | slice (β off len cap k : Nat) (I : Im) (h : γ β = some I) (hk : k ≤ I.e) (hc : k ≠ 0 → off + cap * I.q ≤ I.s) :
      VRel γ (.slice (some ⟨β, off, none⟩) len cap) (.slice (some ⟨I.b, I.o + off, none⟩) len (cap + k))
  | map (β : Nat) (I : Im) (h : γ β = some I) : VRel γ (.map (some β)) (.map (some I.b))
  | func (f : FuncId) (x x' y y' : Array Value) (hx : VRels γ x.toList x'.toList) (hy : VRels γ y.toList y'.toList) : VRel γ (.func (.func f) x y) (.func (.func f) x' y')
  | iface (t : TypeId) (v v' : Value) (h : VRel γ v v') : VRel γ (.iface t v) (.iface t v')
  | agg (x x' : Array Value) (h : VRels γ x.toList x'.toList) : VRel γ (.agg x) (.agg x')
  | tuple (x x' : Array Value) (h : VRels γ x.toList x'.toList) : VRel γ (.tuple x) (.tuple x')
inductive VRels (γ : Gm) : List Value → List Value → Prop where
  | nil : VRels γ [] []
  | cons (v r : Value) (vs rs : List Value) (h : VRel γ v r) (hs : VRels γ vs rs) : VRels γ (v :: vs) (r :: rs)
end

theorem VRel.mono {γ γ' : Gm} (e : Ext γ γ') {v r : Value} (h : VRel γ v r) : VRel γ' v r :=
  @VRel.rec γ (fun v r _ => VRel γ' v r) (fun vs rs _ => VRels γ' vs rs)
    (fun v h => .plain v h) (fun β off I h => .pointer β off I (e _ _ h)) (fun β off len cap k I h hk hc => .slice β off len cap k I (e _ _ h) hk hc)
    (fun β I h => .map β I (e _ _ h)) (fun f x x' y y' _ _ hx hy => .func f x x' y y' hx hy) (fun t v v' _ h => .iface t v v' h)
    (fun x x' _ h => .agg x x' h) (fun x x' _ h => .tuple x x' h) .nil (fun v r vs rs _ _ h hs => .cons v r vs rs h hs) v r h

theorem vrels_iff {γ : Gm} : ∀ {vs rs : List Value}, VRels γ vs rs ↔ vs.length = rs.length ∧ ∀ (j : Nat) (v r : Value), vs[j]? = some v → rs[j]? = some r → VRel γ v r
  | [], [] => ⟨fun _ => ⟨rfl, fun j v r h => by simp at h⟩, fun _ => .nil⟩
  | [], _ :: _ => ⟨fun h => (by cases h), fun h => by simp at h⟩
  | _ :: _, [] => ⟨fun h => (by cases h), fun h => by simp at h⟩
  | v :: vs, r :: rs => by
    constructor
    · intro h
      cases h with
      | cons _ _ _ _ h hs =>
        obtain ⟨hl, hr⟩ := vrels_iff.1 hs
        refine ⟨by simp [hl], fun j x y hx hy => ?_⟩
        cases j with
        | zero => simp at hx hy; subst hx; subst hy; exact h
        | succ j => exact hr j x y (by simpa using hx) (by simpa using hy)
    · rintro ⟨hl, hr⟩
      exact .cons v r vs rs (hr 0 v r rfl rfl) (vrels_iff.2 ⟨by simpa using hl, fun j x y hx hy => hr (j + 1) x y (by simpa using hx) (by simpa using hy)⟩)

theorem VRels.mono {γ γ' : Gm} (e : Ext γ γ') {vs rs : List Value} (h : VRels γ vs rs) : VRels γ' vs rs := by
  obtain ⟨hl, hr⟩ := vrels_iff.1 h
  exact vrels_iff.2 ⟨hl, fun j v r hv hr' => (hr j v r hv hr').mono e⟩

theorem VRels.append {γ : Gm} {vs rs vs' rs' : List Value} (h : VRels γ vs rs) (h' : VRels γ vs' rs') : VRels γ (vs ++ vs') (rs ++ rs') := by
  induction vs generalizing rs with
  | nil => cases h; exact h'
  | cons v vs ih => cases h with | cons _ r _ rs h hs => exact .cons _ _ _ _ h (ih hs)

theorem VRels.take {γ : Gm} (n : Nat) {vs rs : List Value} (h : VRels γ vs rs) : VRels γ (vs.take n) (rs.take n) := by
  induction n generalizing vs rs with
  | zero => simpa using VRels.nil
  | succ n ih => cases h with
    | nil => exact .nil
    | cons v r vs rs h hs => exact .cons _ _ _ _ h (ih hs)

theorem VRels.drop {γ : Gm} (n : Nat) {vs rs : List Value} (h : VRels γ vs rs) : VRels γ (vs.drop n) (rs.drop n) := by
  induction n generalizing vs rs with
  | zero => simpa using h
  | succ n ih => cases h with
    | nil => exact .nil
    | cons v r vs rs h hs => exact ih hs

theorem VRels.length {γ : Gm} {vs rs : List Value} (h : VRels γ vs rs) : vs.length = rs.length := (vrels_iff.1 h).1
theorem VRels.get {γ : Gm} {vs rs : List Value} (h : VRels γ vs rs) {j : Nat} {v : Value} (hv : vs[j]? = some v) : ∃ r, rs[j]? = some r ∧ VRel γ v r := by
  have hj : j < rs.length := by rw [← h.length]; exact (List.getElem?_eq_some_iff.1 hv).1
  exact ⟨rs[j], List.getElem?_eq_getElem hj, (vrels_iff.1 h).2 j v _ hv (List.getElem?_eq_getElem hj)⟩

theorem VRels.plain {γ : Gm} : ∀ {vs : List Value}, vs.all plainV = true → VRels γ vs vs
  | [], _ => .nil
  | v :: vs, h => by
    simp only [List.all_cons, Bool.and_eq_true] at h
    exact .cons _ _ _ _ (.plain v h.1) (VRels.plain h.2)

theorem VRel.of_plainV {γ : Gm} {v r : Value} (h : VRel γ v r) (hp : plainV v = true) : r = v := by
  cases h <;> first | rfl | (simp [plainV] at hp)
theorem VRels.of_plain {γ : Gm} {vs rs : List Value} (h : VRels γ vs rs) (hp : vs.all plainV = true) : rs = vs := by
  induction vs generalizing rs with
  | nil => cases h; rfl
  | cons v vs ih => cases h with
    | cons _ r _ rs h hs =>
      simp only [List.all_cons, Bool.and_eq_true] at hp
      rw [h.of_plainV hp.1, ih hs hp.2]

theorem VRel.of_plainC {γ : Gm} {v r : Value} (h : VRel γ v r) (hp : plainC v = true) : r = v := by
  cases h with
  | plain => rfl
  | agg x x' h => simp only [plainC] at hp; rw [show x' = x from Array.ext' (h.of_plain hp)]
  | tuple x x' h => simp only [plainC] at hp; rw [show x' = x from Array.ext' (h.of_plain hp)]
  | _ => simp [plainC, plainV] at hp
theorem VRel.ofC {γ : Gm} {v : Value} (hp : plainC v = true) : VRel γ v v := by
  cases v with
  | agg x => exact .agg _ _ (VRels.plain (by simpa [plainC] using hp))
  | tuple x => exact .tuple _ _ (VRels.plain (by simpa [plainC] using hp))
  | _ => exact .plain _ (by simpa [plainC] using hp)

theorem VRel.cells {γ : Gm} {v r : Value} (h : VRel γ v r) : VRels γ v.cells.toList r.cells.toList := by
  cases h with
  | agg x x' h => exact h
  | plain v hp => cases v <;> first | (simp [plainV] at hp; done) | exact .cons _ _ _ _ (.plain _ hp) .nil
  | pointer β off I h => exact .cons _ _ _ _ (.pointer β off I h) .nil
  | slice β off len cap k I h hk hc => exact .cons _ _ _ _ (.slice β off len cap k I h hk hc) .nil
  | map β I h => exact .cons _ _ _ _ (.map β I h) .nil
  | func f x x' y y' hx hy => exact .cons _ _ _ _ (.func f x x' y y' hx hy) .nil
  | iface t v v' h => exact .cons _ _ _ _ (.iface t v v' h) .nil
  | tuple x x' h => exact .cons _ _ _ _ (.tuple x x' h) .nil

theorem VRel.one {γ : Gm} {v r : Value} (h : VRel γ v r) (hv : oneCell v = true) : r.oneCell' = true := by
  cases h with
  | plain v hp => cases v <;> simp_all [oneCell, Value.oneCell']
  | agg => simp [oneCell] at hv
  | tuple => simp [oneCell] at hv
  | _ => rfl
theorem VRels.ones {γ : Gm} {vs rs : List Value} (h : VRels γ vs rs) (hv : oneCells vs = true) : ∀ r ∈ rs, r.oneCell' = true := by
  induction vs generalizing rs with
  | nil => cases h; simp
  | cons v vs ih => cases h with
    | cons _ r _ rs h hs =>
      simp only [oneCells, List.all_cons, Bool.and_eq_true] at hv
      intro x hx
      rcases List.mem_cons.1 hx with rfl | hx
      · exact h.one hv.1
      · exact ih hs hv.2 x hx

/-! ### Memory -/

def SRel (P : Program) (N : Nat) (γ : Gm) (w : World) (I : Im) : Slot → Prop
  | .dead => True
  | .live x => x.cells.length = I.s ∧ (x.exact = true → I.e = 0) ∧ (I.e ≠ 0 → sizeT P x.elem = some I.q) ∧ (x.ro = false → N ≤ I.b) ∧
      ∃ rc el fr, w.heap[I.b]? = some (.cells rc el fr) ∧ (x.ro = false → el = x.elem) ∧ I.o + I.s + I.e * I.q ≤ rc.size ∧ (x.ro = false → fr = (0, 0)) ∧
        ∀ (j : Nat) (v : Value), x.cells[j]? = some v → ∃ r, rc[I.o + j]? = some r ∧ VRel γ v r
  | .iter s pos => I.o = 0 ∧ N ≤ I.b ∧ w.heap[I.b]? = some (.stringIter s pos)
  | .map es => N ≤ I.b ∧ ∃ me clock, w.heap[I.b]? = some (.map me clock) ∧ es.length = me.size ∧
      ∀ (j : Nat) (k v : Value) (e : MapEntry), es[j]? = some (k, v) → me[j]? = some e → e.key = k ∧ VRel γ v e.val

def aliveS : Slot → Bool
  | .dead => false
  | _ => true

theorem SRel.mono {P : Program} {N : Nat} {γ γ' : Gm} (e : Ext γ γ') {w w' : World} {I : Im} {x : Slot} (h : SRel P N γ w I x) (hw : aliveS x = true → w'.heap[I.b]? = w.heap[I.b]?) : SRel P N γ' w' I x := by
  cases x with
  | dead => trivial
  | live x =>
    obtain ⟨h1, h2, h3, h4, rc, el, fr, h5, he, h6, h7, h8⟩ := h
    exact ⟨h1, h2, h3, h4, rc, el, fr, by rw [hw rfl]; exact h5, he, h6, h7, fun j v hv => let ⟨r, hr, hv⟩ := h8 j v hv; ⟨r, hr, hv.mono e⟩⟩
  | iter s pos => exact ⟨h.1, h.2.1, by rw [hw rfl]; exact h.2.2⟩
  | map es =>
    obtain ⟨h1, me, c, h2, h3, h4⟩ := h
    exact ⟨h1, me, c, by rw [hw rfl]; exact h2, h3, fun j k v x hx hy => ⟨(h4 j k v x hx hy).1, (h4 j k v x hx hy).2.mono e⟩⟩

theorem SRel.lt {P : Program} {N : Nat} {γ : Gm} {w : World} {I : Im} {x : Slot} (h : SRel P N γ w I x) (ha : aliveS x = true) : I.b < w.heap.size := by
  have key : ∀ o, w.heap[I.b]? = some o → I.b < w.heap.size := fun o ho => (Array.getElem?_eq_some_iff.1 ho).1
  cases x with
  | dead => cases ha
  | live x => obtain ⟨_, _, _, _, rc, el, fr, h5, _⟩ := h; exact key _ h5
  | iter s pos => exact key _ h.2.2
  | map es => obtain ⟨_, me, c, h2, _⟩ := h; exact key _ h2

structure Rel (P : Program) (N : Nat) (w0 : World) (γ : Gm) (H : Hp) (w : World) : Prop where
  below : Below N w0 w
  size : N ≤ w.heap.size
  free : ∀ β, H β = none → γ β = none
  slot : ∀ β x, H β = some x → ∃ I, γ β = some I ∧ SRel P N γ w I x
  apart : ∀ β β' x x' I I', H β = some x → H β' = some x' → aliveS x = true → aliveS x' = true → γ β = some I → γ β' = some I' → β ≠ β' → I.b ≠ I'.b

theorem Rel.at {P : Program} {N : Nat} {w0 : World} {γ : Gm} {H : Hp} {w : World} (h : Rel P N w0 γ H w) {β : Nat} {x : Slot} {I : Im} (hx : H β = some x) (hI : γ β = some I) : SRel P N γ w I x := by
  obtain ⟨J, hJ, hs⟩ := h.slot β x hx
  rw [hI] at hJ; cases hJ; exact hs

/-- The one law of all writes: a slot is laid anew, and no other one's block has turned. -/
theorem Rel.put {P : Program} {N : Nat} {w0 : World} {γ γ' : Gm} {H : Hp} {w w' : World} (h : Rel P N w0 γ H w) {β : Nat} {y : Slot} {I : Im}
    (e : Ext γ γ') (hb : Below N w0 w') (hn : N ≤ w'.heap.size) (hI : γ' β = some I) (hoth : ∀ j, j ≠ β → γ' j = γ j) (hy : SRel P N γ' w' I y)
    (hap : aliveS y = true → ∀ j x J, j ≠ β → H j = some x → aliveS x = true → γ j = some J → J.b ≠ I.b)
    (hw : ∀ j x J, j ≠ β → H j = some x → aliveS x = true → γ j = some J → w'.heap[J.b]? = w.heap[J.b]?) : Rel P N w0 γ' (upd H β y) w' where
  below := hb
  size := hn
  free := fun j hj => by
    by_cases e1 : j = β
    · subst e1; simp [upd] at hj
    · rw [upd_ne H y e1] at hj
      rw [hoth j e1]; exact h.free j hj
  slot := fun j x hj => by
    by_cases e1 : j = β
    · subst e1; rw [upd_same] at hj; cases hj; exact ⟨I, hI, hy⟩
    · rw [upd_ne H y e1] at hj
      obtain ⟨J, hJ, hs⟩ := h.slot j x hj
      exact ⟨J, e _ _ hJ, hs.mono e fun ha => hw j x J e1 hj ha hJ⟩
  apart := fun j j' x x' J J' hx hx' ha ha' hJ hJ' hne => by
    by_cases e1 : j = β
    · subst e1
      have e2 : j' ≠ j := fun q => hne q.symm
      rw [upd_same] at hx; cases hx
      rw [upd_ne H _ e2] at hx'
      rw [hI] at hJ; cases hJ
      rw [hoth j' e2] at hJ'
      exact fun q => hap ha j' x' J' e2 hx' ha' hJ' q.symm
    · by_cases e2 : j' = β
      · subst e2
        rw [upd_same] at hx'; cases hx'
        rw [upd_ne H _ e1] at hx
        rw [hI] at hJ'; cases hJ'
        rw [hoth j e1] at hJ
        exact hap ha' j x J e1 hx ha hJ
      · rw [upd_ne H y e1] at hx
        rw [upd_ne H y e2] at hx'
        rw [hoth j e1] at hJ
        rw [hoth j' e2] at hJ'
        exact h.apart j j' x x' J J' hx hx' ha ha' hJ hJ' hne

theorem Rel.drew {P : Program} {N : Nat} {w0 : World} {γ : Gm} {H : Hp} {w : World} (h : Rel P N w0 γ H w) : Rel P N w0 γ H w.drew where
  below := h.below.drew
  size := h.size
  free := h.free
  slot := fun β x hx => let ⟨I, hI, hs⟩ := h.slot β x hx; ⟨I, hI, hs.mono (Ext.refl γ) fun _ => rfl⟩
  apart := h.apart

/-- A new block. -/
theorem Rel.new {P : Program} {N : Nat} {w0 : World} {γ : Gm} {H : Hp} {w : World} (h : Rel P N w0 γ H w) {β : Nat} (hβ : H β = none) {y : Slot} {I : Im} (o : Obj)
    (hb : I.b = w.heap.size) (hy : SRel P N (upd γ β I) (w.alloc o) I y) : Ext γ (upd γ β I) ∧ Rel P N w0 (upd γ β I) (upd H β y) (w.alloc o) := by
  have e := Ext.upd (h.free β hβ) I
  refine ⟨e, h.put e (h.below.alloc h.size o) (by simp; exact Nat.le_succ_of_le h.size) (upd_same γ β I) (fun j hj => upd_ne γ I hj) hy ?_ ?_⟩
  · intro _ j x J _ hx ha hJ
    have := (h.at hx hJ).lt ha
    omega
  · intro j x J _ hx ha hJ
    exact Below.heap_alloc _ _ _ ((h.at hx hJ).lt ha)

end Go.Proofs.YtdjoolpdabffjaaGreatDoor.Vr
