/- Where a virtual run starts: the package-level variables, some of them with what they hold. -/
import Derived.Test.YtdjoolpdabffjaaGreatDoorVrRun
namespace Go.Proofs.YtdjoolpdabffjaaGreatDoor.Vr
open Go Go.Region Go.RowKit

noncomputable def deads : Nat → Tr Slot
  | 0 => .e
  | n + 1 => Tr.put bits (deads n) n .dead

noncomputable def startT (G : Nat) : List (Nat × Blk) → Tr Slot
  | [] => deads G
  | (g, x) :: r => Tr.put bits (startT G r) g (.live x)

theorem deads_get (j : Nat) : ∀ n, n ≤ top → (deads n).get j = if j < n then some .dead else none
  | 0, _ => rfl
  | n + 1, h => by
    simp only [deads]
    rw [get_put' _ _ _ _ (by omega), deads_get j n (by omega)]
    by_cases h1 : j = n
    · rw [if_pos h1, if_pos (by omega)]
    · rw [if_neg h1]
      by_cases h2 : j < n
      · rw [if_pos h2, if_pos (by omega)]
      · rw [if_neg h2, if_neg (by omega)]

/-- What a table holds, in the real memory. -/
def TabAt (w : World) (g : Nat) (x : Blk) : Prop := ∃ rc el fr, w.heap[g]? = some (.cells rc el fr) ∧ ∀ (j : Nat) (v : Value), x.cells[j]? = some v → rc[j]? = some v

def tabOk (G : Nat) (p : Nat × Blk) : Bool := decide (p.1 < G) && p.2.exact && p.2.ro && p.2.cells.all plainV

noncomputable def startG (G : Nat) (tabs : List (Nat × Blk)) : Gm := fun k => match (startT G tabs).get k with
  | some (.live x) => some ⟨k, 0, 0, 0, x.cells.length⟩
  | some _ => some ⟨k, 0, 0, 0, 0⟩
  | none => none

theorem startT_get {G : Nat} (hG : G ≤ top) : ∀ {tabs : List (Nat × Blk)}, tabs.all (tabOk G) = true → ∀ j, (j < G → ((startT G tabs).get j = some .dead ∨ ∃ x, (j, x) ∈ tabs ∧ (startT G tabs).get j = some (.live x))) ∧ (G ≤ j → (startT G tabs).get j = none)
  | [], _, j => by
    simp only [startT, deads_get j G hG]
    exact ⟨fun h => .inl (if_pos h), fun h => if_neg (by omega)⟩
  | (g, x) :: r, h, j => by
    simp only [List.all_cons, Bool.and_eq_true] at h
    have hg : g < G := by
      have := h.1
      simp only [tabOk, Bool.and_eq_true, decide_eq_true_eq] at this
      exact this.1.1.1
    obtain ⟨h1, h2⟩ := startT_get hG h.2 j
    simp only [startT]
    rw [get_put' _ _ _ _ (by omega)]
    by_cases e : j = g
    · subst e
      rw [if_pos rfl]
      exact ⟨fun _ => .inr ⟨x, by simp, rfl⟩, fun q => by omega⟩
    · rw [if_neg e]
      refine ⟨fun q => ?_, h2⟩
      rcases h1 q with h1 | ⟨y, hy, h1⟩
      · exact .inl h1
      · exact .inr ⟨y, by simp [hy], h1⟩

/-- What a virtual run returned. -/
def outV (r : Option (Value × St × List Ev)) : Option Value := match r with
  | some (u, _, _) => some u
  | none => none

/-- A call, virtually run from the start, returns what the run returned, and turns nothing that was there. -/
theorem run_start {P : Program} {G F n : Nat} {tabs : List (Nat × Blk)} {f : FuncId} {args : List Value} {v : Value} (hm : P.follows .mixedOrders = true) (hG : G ≤ top) (ht : tabs.all (tabOk G) = true)
    (h : outV (calls P G F n f args { n := G, h := startT G tabs }) = some v) (hp : plainV v = true) (ha : args.all plainV = true) {w : World} (hw : ∀ p ∈ tabs, TabAt w p.1 p.2) :
    Calls P f args.toArray w fun e w' => e = .returned v ∧ Below w.heap.size w w' := by
  unfold outV at h
  split at h
  · rename_i u s' es hc
    cases h
    have hget := fun j => startT_get hG ht j
    have hslot : ∀ j x, (startT G tabs).get j = some (.live x) → (j, x) ∈ tabs := by
      intro j x hx
      obtain ⟨h1, h2⟩ := hget j
      rcases Nat.lt_or_ge j G with q | q
      · rcases h1 q with h1 | ⟨y, hy, h1⟩
        · rw [hx] at h1; cases h1
        · rw [hx] at h1; cases h1; exact hy
      · rw [h2 q] at hx; cases hx
    have hR : Rel P w.heap.size w (startG G tabs) (startT G tabs).get w := by
      refine ⟨Below.refl _ _, Nat.le_refl _, fun β hβ => by simp only [startG, hβ], fun β x hx => ?_, fun β β' x x' I I' _ _ _ _ hI hI' hne => ?_⟩
      · cases x with
        | dead => exact ⟨⟨β, 0, 0, 0, 0⟩, by simp only [startG, hx], trivial⟩
        | live x =>
          have hm := hslot β x hx
          have hok := List.all_eq_true.1 ht _ hm
          simp only [tabOk, Bool.and_eq_true, decide_eq_true_eq] at hok
          obtain ⟨rc, el, fr, h1, h2⟩ := hw _ hm
          have h1 : w.heap[β]? = some (.cells rc el fr) := h1
          have h2 : ∀ (j : Nat) (v : Value), x.cells[j]? = some v → rc[j]? = some v := h2
          refine ⟨⟨β, 0, 0, 0, x.cells.length⟩, by simp only [startG, hx], rfl, fun _ => rfl, fun q => absurd rfl q, fun q => (by rw [hok.1.2] at q; cases q), rc, el, fr, h1, fun q => (by rw [hok.1.2] at q; cases q), ?_, fun q => (by rw [hok.1.2] at q; cases q), fun j v hv => ?_⟩
          · simp only [Nat.zero_mul, Nat.add_zero, Nat.zero_add]
            cases hl : x.cells.length with
            | zero => exact Nat.zero_le _
            | succ l =>
              have := h2 l x.cells[l] (List.getElem?_eq_getElem (by omega))
              have := (Array.getElem?_eq_some_iff.1 this).1
              omega
          · refine ⟨v, by simpa using h2 j v hv, .plain v ?_⟩
            have := List.all_eq_true.1 hok.2 v (List.mem_of_getElem? hv)
            exact this
        | iter s pos =>
          obtain ⟨h1, h2⟩ := hget β
          rcases Nat.lt_or_ge β G with q | q
          · rcases h1 q with h1 | ⟨y, _, h1⟩ <;> (rw [hx] at h1; cases h1)
          · rw [h2 q] at hx; cases hx
        | map es =>
          obtain ⟨h1, h2⟩ := hget β
          rcases Nat.lt_or_ge β G with q | q
          · rcases h1 q with h1 | ⟨y, _, h1⟩ <;> (rw [hx] at h1; cases h1)
          · rw [h2 q] at hx; cases hx
      · have hb : ∀ k J, startG G tabs k = some J → J.b = k := by
          intro k J hJ
          simp only [startG] at hJ
          split at hJ <;> first | (cases hJ; rfl) | cases hJ
        rw [hb _ _ hI, hb _ _ hI']
        exact hne
    have hgood : St.good { n := G, h := startT G tabs } := fun k hk => (hget k).2 hk
    refine (calls_sound hm hc hgood hR (fun k hk => ?_) (by simpa using VRels.plain ha)).mono ?_
    · obtain ⟨h1, _⟩ := hget k
      rcases h1 hk with h1 | ⟨x, _, h1⟩
      · exact ⟨⟨k, 0, 0, 0, 0⟩, by simp only [startG, h1], rfl, rfl⟩
      · exact ⟨⟨k, 0, 0, 0, x.cells.length⟩, by simp only [startG, h1], rfl, rfl⟩
    · rintro e w' ⟨γ', r, rfl, _, hv, hR'⟩
      rw [hv.of_plainV hp]
      exact ⟨rfl, hR'.below⟩
  · cases h

end Go.Proofs.YtdjoolpdabffjaaGreatDoor.Vr
