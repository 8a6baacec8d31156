/- What single operations do: slices. -/
import Derived.Test.YtdjoolpdabffjaaGreatDoorVrB
namespace Go.Proofs.YtdjoolpdabffjaaGreatDoor.Vr
open Go Go.Region Go.RowKit
section
variable {P : Program} {N : Nat} {w0 w : World} {γ : Gm} {H H' : Hp}

inductive ORel (γ : Gm) : Option Value → Option Value → Prop where
  | none : ORel γ none none
  | some (v r : Value) (h : VRel γ v r) : ORel γ (some v) (some r)

theorem bound_ok {d l y : Nat} {x r : Value} (hb : boundV d (some x) = some l) (hx : VRel γ x r) (hy : l ≤ y) (code : BoundsCode) : (Instr.sliceBound r y code).run P w = .ok l w := by
  unfold boundV at hb
  split at hb
  · rename_i heq; cases heq
  · rename_i k i heq
    cases heq
    cases hx.of_plainV rfl
    split at hb
    · rename_i h0
      cases hb
      have : 0 ≤ i ∧ i ≤ (y : Int) := ⟨h0, by omega⟩
      simp [Instr.sliceBound, asIntOf, this]
    · cases hb
  · cases hb

theorem bounds_ok {sl : Bool} {len cap cap' l h m : Nat} {lo hi mx lo' hi' mx' : Option Value} (hl : boundV 0 lo = some l) (hh : boundV len hi = some h) (hm : boundV cap mx = some m) (rl : ORel γ lo lo') (rh : ORel γ hi hi')
    (rm : ORel γ mx mx') (h1 : l ≤ h) (h2 : h ≤ m) (h3 : m ≤ cap) (h4 : cap ≤ cap') (hx : ¬ (mx.isSome = true ∧ hi.isNone = true)) :
    (Instr.sliceBounds sl len cap' lo' hi' mx').run P w = .ok (l, h, if mx.isSome = true then m else cap') w := by
  cases rm with
  | none =>
    simp [boundV] at hm; subst hm
    cases rh with
    | none =>
      simp [boundV] at hh; subst hh
      cases rl with
      | none => simp [boundV] at hl; subst hl; simp [Instr.sliceBounds]
      | some vl rl hvl =>
        have hbl := bound_ok (P := P) (w := w) hl hvl h1 .sliceB
        simp [Instr.sliceBounds, hbl]
    | some v r hv =>
      have hb := bound_ok (P := P) (w := w) hh hv (show h ≤ cap' by omega) (if sl then .sliceAcap else .sliceAlen)
      cases rl with
      | none => simp [boundV] at hl; subst hl; simp [Instr.sliceBounds, hb]
      | some vl rl hvl =>
        have hbl := bound_ok (P := P) (w := w) hl hvl h1 .sliceB
        simp [Instr.sliceBounds, hb, hbl]
  | some vm rm hvm =>
    cases rh with
    | none => exact absurd ⟨rfl, rfl⟩ hx
    | some v r hv =>
      have hbm := bound_ok (P := P) (w := w) hm hvm (show m ≤ cap' by omega) (if sl then .slice3Acap else .slice3Alen)
      have hb := bound_ok (P := P) (w := w) hh hv h2 .slice3B
      cases rl with
      | none => simp [boundV] at hl; subst hl; simp [Instr.sliceBounds, hbm, hb]
      | some vl rl hvl =>
        have hbl := bound_ok (P := P) (w := w) hl hvl h1 .slice3C
        simp [Instr.sliceBounds, hbm, hb, hbl]

theorem slice_ok {s : St} {t : TypeId} {x v r : Value} {lo hi mx lo' hi' mx' : Option Value} {es : List Ev} (h : vslice P s t x lo hi mx = some (.val v es)) (hx : VRel γ x r) (rl : ORel γ lo lo') (rh : ORel γ hi hi') (rm : ORel γ mx mx')
    (hR : Rel P N w0 γ H w) (hE : EvsOk H es H') : H' = H ∧ ∃ rv, (Instr.sliceAt t r lo' hi' mx').run P w = .ok rv w ∧ VRel γ v rv := by
  unfold vslice at h
  split at h
  · cases h
  rename_i hmx
  split at h
  · rename_i st hu
    cases hx.of_plainV rfl
    split at h
    · rename_i l h' hl hh
      cases rm
      split at h
      · rename_i hc
        cases h
        cases hE
        have hb := bounds_ok (P := P) (w := w) (sl := false) (cap := st.size) (cap' := st.size) hl hh rfl rl rh .none hc.1 hc.2 (Nat.le_refl _) (Nat.le_refl _) hmx
        refine ⟨rfl, _, ?_, .plain _ rfl⟩
        simp [Instr.sliceAt, Instr.slice, run_und hu, hb]
      · cases h
    · cases h
  · rename_i el hu
    cases hx.of_plainV rfl
    split at h
    · rename_i n hn hl hh hm
      cases h
      cases hE
      have hb := bounds_ok (P := P) (w := w) (sl := true) (cap := 0) (cap' := 0) hl hh hm rl rh rm (Nat.le_refl _) (Nat.le_refl _) (Nat.le_refl _) (Nat.le_refl _) hmx
      refine ⟨rfl, _, ?_, .plain _ rfl⟩
      simp [Instr.sliceAt, Instr.slice, run_und hu, hb, run_size hn]
    · cases h
  · rename_i el b off len cap hu
    obtain ⟨I, k, hI, hk, hc, rfl⟩ := hx.slice_inv
    split at h
    · rename_i n l h' m hn hl hh hm
      split at h
      · rename_i hord
        have hb := bounds_ok (P := P) (w := w) (sl := true) (cap := cap) (cap' := cap + k) hl hh hm rl rh rm hord.1 hord.2.1 hord.2.2 (Nat.le_add_right _ _) hmx
        have hrun : (Instr.sliceAt t (.slice (some ⟨I.b, I.o + off, none⟩) len (cap + k)) lo' hi' mx').run P w =
            .ok (.slice (some (if (if mx.isSome = true then m else cap + k) = l then (⟨I.b, I.o + off, none⟩ : Addr) else ⟨I.b, I.o + off + l * n, none⟩)) (h' - l) ((if mx.isSome = true then m else cap + k) - l)) w := by
          simp only [Instr.sliceAt, Instr.slice, run_und hu, Sem.run_bind, Result.andThen_ok, hb, run_size hn, Sem.run_pure, Addr.add_mid, Option.map_some]
          by_cases q : (if mx.isSome = true then m else cap + k) = l
          · rw [if_pos q, if_pos q]
          · rw [if_neg q, if_neg q]
        have hmm : mx.isSome = false → m = cap := by
          intro q
          cases mx with
          | none => simp [boundV] at hm; exact hm.symm
          | some _ => cases q
        -- how much more than the virtual one
        have hk' : ∃ k', (if mx.isSome = true then m else cap + k) = m + k' ∧ k' ≤ I.e ∧ (k' ≠ 0 → m = cap ∧ off + cap * I.q ≤ I.s ∧ mx.isSome = false) := by
          cases hmxs : mx.isSome with
          | true => exact ⟨0, by simp, Nat.zero_le _, fun q => absurd rfl q⟩
          | false => exact ⟨k, by simp [hmm hmxs], hk, fun q => ⟨hmm hmxs, hc q, rfl⟩⟩
        obtain ⟨k', hk1, hk2, hk3⟩ := hk'
        rw [hk1] at hrun
        split at h
        · rename_i hl0
          cases h
          cases hE
          refine ⟨rfl, _, hrun, ?_⟩
          subst hl0
          have e1 : (if m + k' = 0 then (⟨I.b, I.o + off, none⟩ : Addr) else ⟨I.b, I.o + off + 0 * n, none⟩) = ⟨I.b, I.o + off, none⟩ := by simp
          rw [e1]
          simpa using VRel.slice b off h' m k' I hI hk2 (fun q => by obtain ⟨a1, a2, _⟩ := hk3 q; rw [a1]; exact a2)
        · rename_i hl0
          split at h
          · rename_i xb hxb
            split at h
            · rename_i hcond
              cases h
              obtain ⟨H1, ⟨⟨y, hy, hye, hyx⟩, rfl⟩, h2⟩ := hE
              cases h2
              refine ⟨rfl, _, hrun, ?_⟩
              obtain ⟨g1, g2, g3, g4, _⟩ := hR.at hy hI
              have key : k' = 0 ∨ (l < m ∧ n = I.q) := by
                by_cases hz : k' = 0
                · exact .inl hz
                · obtain ⟨a1, a2, a3⟩ := hk3 hz
                  rcases hcond with hex | ⟨hel, hlm⟩
                  · have := g2 (hyx.trans hex); omega
                  · rw [a3] at hlm
                    refine .inr ⟨by simpa using hlm, ?_⟩
                    have he : I.e ≠ 0 := by omega
                    have := g3 he
                    rw [hye, hel, hn] at this
                    exact Option.some.inj this
              have e1 : (if m + k' = l then (⟨I.b, I.o + off, none⟩ : Addr) else ⟨I.b, I.o + off + l * n, none⟩) = ⟨I.b, I.o + (if m = l then off else off + l * n), none⟩ := by
                rcases key with rfl | ⟨hlm, _⟩
                · by_cases q : m = l
                  · simp [q]
                  · simp [q, Nat.add_assoc]
                · rw [if_neg (by omega), if_neg (by omega)]; simp [Nat.add_assoc]
              rw [e1, show m + k' - l = m - l + k' by omega]
              refine VRel.slice b _ _ _ k' I hI hk2 fun q => ?_
              obtain ⟨a1, a2, a3⟩ := hk3 q
              rcases key with hz | ⟨hlm, hnq⟩
              · exact absurd hz q
              · rw [if_neg (by omega), hnq]
                have e2 : l * I.q + (m - l) * I.q = cap * I.q := by
                  rw [← Nat.add_mul, ← a1]; congr 1; omega
                omega
            · cases h
          · cases h
      · cases h
    · cases h
  · rename_i k el b off hu
    obtain ⟨I, hI, rfl⟩ := hx.pointer_inv
    split at h
    · rename_i n l h' m hn hl hh hm
      split at h
      · rename_i hord
        cases h
        cases hE
        have hb := bounds_ok (P := P) (w := w) (sl := false) (cap := k) (cap' := k) hl hh hm rl rh rm hord.1 hord.2.1 hord.2.2 (Nat.le_refl _) hmx
        have hmm : (if mx.isSome = true then m else k) = m := by
          cases mx with
          | none => simp [boundV] at hm; simp [hm]
          | some _ => rfl
        rw [hmm] at hb
        refine ⟨rfl, _, ?_, VRel.slice b (if m = l then off else off + l * n) (h' - l) (m - l) 0 I hI (Nat.zero_le _) (fun q => absurd rfl q)⟩
        simp only [Instr.sliceAt, run_und hu, Sem.run_bind, Result.andThen_ok, Instr.sureAddr, Sem.run_pure, hb, run_size hn, Addr.add_mid]
        by_cases q : m = l
        · simp [q]
        · simp [q, Nat.add_assoc]
      · cases h
    · cases h
  · cases h

end
end Go.Proofs.YtdjoolpdabffjaaGreatDoor.Vr
