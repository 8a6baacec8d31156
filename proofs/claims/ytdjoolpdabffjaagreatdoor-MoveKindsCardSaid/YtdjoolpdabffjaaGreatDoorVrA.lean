/- What single operations do: memory. -/
import Derived.Test.YtdjoolpdabffjaaGreatDoorVrRel
namespace Go.Proofs.YtdjoolpdabffjaaGreatDoor.Vr
open Go Go.Region Go.RowKit

def EvOk (H : Hp) : Ev → Hp → Prop
  | .rd b off vs, H' => (∃ x, H b = some (.live x) ∧ (x.cells.drop off).take vs.length = vs) ∧ H' = H
  | .wr b off vs, H' => ∃ x, H b = some (.live x) ∧ x.ro = false ∧ off + vs.length ≤ x.cells.length ∧ H' = upd H b (.live { x with cells := overlay x.cells off vs })
  | .new b x, H' => H b = none ∧ H' = upd H b x
  | .kill b, H' => ∃ x, H b = some (.live x) ∧ x.ro = false ∧ H' = upd H b .dead
  | .info b el ex, H' => (∃ x, H b = some (.live x) ∧ x.elem = el ∧ x.exact = ex) ∧ H' = H
  | .look b x, H' => H b = some x ∧ H' = H
  | .obj b x y, H' => H b = some x ∧ H' = upd H b y

def EvsOk : Hp → List Ev → Hp → Prop
  | H, [], H' => H' = H
  | H, e :: es, H' => ∃ H1, EvOk H e H1 ∧ EvsOk H1 es H'

theorem EvsOk.append {H H1 H2 : Hp} {es fs : List Ev} (h : EvsOk H es H1) (h' : EvsOk H1 fs H2) : EvsOk H (es ++ fs) H2 := by
  induction es generalizing H with
  | nil => cases h; exact h'
  | cons e es ih => obtain ⟨K, h1, h2⟩ := h; exact ⟨K, h1, ih h2⟩
theorem EvsOk.split {H H2 : Hp} {es fs : List Ev} (h : EvsOk H (es ++ fs) H2) : ∃ H1, EvsOk H es H1 ∧ EvsOk H1 fs H2 := by
  induction es generalizing H with
  | nil => exact ⟨H, rfl, h⟩
  | cons e es ih => obtain ⟨K, h1, h2⟩ := h; obtain ⟨H1, h3, h4⟩ := ih h2; exact ⟨H1, ⟨K, h1, h3⟩, h4⟩

/-! ### Values taken apart -/
section
variable {γ : Gm} {r : Value}
theorem VRel.pointer_inv {b off : Nat} (h : VRel γ (.pointer (some ⟨b, off, none⟩)) r) : ∃ I, γ b = some I ∧ r = .pointer (some ⟨I.b, I.o + off, none⟩) := by
  cases h with
  | plain _ hp => simp [plainV] at hp
  | pointer _ _ I h => exact ⟨I, h, rfl⟩
theorem VRel.slice_inv {b off len cap : Nat} (h : VRel γ (.slice (some ⟨b, off, none⟩) len cap) r) :
    ∃ I k, γ b = some I ∧ k ≤ I.e ∧ (k ≠ 0 → off + cap * I.q ≤ I.s) ∧ r = .slice (some ⟨I.b, I.o + off, none⟩) len (cap + k) := by
  cases h with
  | plain _ hp => simp [plainV] at hp
  | slice _ _ _ _ k I h hk hc => exact ⟨I, k, h, hk, hc, rfl⟩
theorem VRel.map_inv {b : Nat} (h : VRel γ (.map (some b)) r) : ∃ I, γ b = some I ∧ r = .map (some I.b) := by
  cases h with
  | plain _ hp => simp [plainV] at hp
  | map _ I h => exact ⟨I, h, rfl⟩
theorem VRel.agg_inv {x : Array Value} (h : VRel γ (.agg x) r) : ∃ x', r = .agg x' ∧ VRels γ x.toList x'.toList := by
  cases h with
  | plain _ hp => simp [plainV] at hp
  | agg _ x' h => exact ⟨x', rfl, h⟩
theorem VRel.tuple_inv {x : Array Value} (h : VRel γ (.tuple x) r) : ∃ x', r = .tuple x' ∧ VRels γ x.toList x'.toList := by
  cases h with
  | plain _ hp => simp [plainV] at hp
  | tuple _ x' h => exact ⟨x', rfl, h⟩
theorem VRel.func_inv {f : FuncId} {x y : Array Value} (h : VRel γ (.func (.func f) x y) r) : ∃ x' y', r = .func (.func f) x' y' ∧ VRels γ x.toList x'.toList ∧ VRels γ y.toList y'.toList := by
  cases h with
  | plain _ hp => simp [plainV] at hp
  | func _ _ x' _ y' hx hy => exact ⟨x', y', rfl, hx, hy⟩
theorem VRel.undef : VRel γ undef undef := .tuple _ _ .nil
end

/-! ### Reading and writing -/
section
variable {P : Program} {N : Nat} {w0 w : World} {γ : Gm} {H H' : Hp}

theorem Rel.rd (hR : Rel P N w0 γ H w) {b off : Nat} {vs : List Value} {I : Im} (hI : γ b = some I) (hE : EvOk H (.rd b off vs) H') :
    H' = H ∧ ∃ rs, VRels γ vs rs ∧ w.rangeAt I.b (I.o + off) rs := by
  obtain ⟨⟨x, hx, ht⟩, rfl⟩ := hE
  refine ⟨rfl, ?_⟩
  obtain ⟨h1, h2, h3, h4, rc, el, fr, h5, he, h6, h7, h8⟩ := hR.at hx hI
  have hlen : vs.length ≤ x.cells.length - off := by
    have := congrArg List.length ht
    simp at this; omega
  have hget : ∀ j v, vs[j]? = some v → x.cells[off + j]? = some v := by
    intro j v hv
    have hj : j < vs.length := (List.getElem?_eq_some_iff.1 hv).1
    rw [← ht] at hv
    simpa [List.getElem?_take, hj, List.getElem?_drop] using hv
  refine ⟨(List.range vs.length).map fun j => (rc[I.o + (off + j)]?).getD undef, vrels_iff.2 ⟨by simp, fun j v r hv hr => ?_⟩, fun j r hr => ?_⟩
  · have hj : j < vs.length := (List.getElem?_eq_some_iff.1 hv).1
    obtain ⟨r', hr', hv'⟩ := h8 _ _ (hget j v hv)
    simp only [List.getElem?_map, List.getElem?_range hj, Option.map_some, Option.some.injEq, hr', Option.getD_some] at hr
    rw [← hr]; exact hv'
  · have hj : j < vs.length := by
      have := (List.getElem?_eq_some_iff.1 hr).1
      simpa using this
    obtain ⟨r', hr', hv'⟩ := h8 _ _ (hget j vs[j] (List.getElem?_eq_getElem hj))
    simp only [List.getElem?_map, List.getElem?_range hj, Option.map_some, Option.some.injEq, hr', Option.getD_some] at hr
    subst hr
    simp [World.cell?, h5, Nat.add_assoc, hr']

theorem overlay_get : ∀ (cs : List Value) (k : Nat) (vs : List Value) (j : Nat), k + vs.length ≤ cs.length → (overlay cs k vs)[j]? = if j < k then cs[j]? else if j < k + vs.length then vs[j - k]? else cs[j]?
  | cs, 0, vs, j, h => by
    simp only [overlay, Nat.not_lt_zero, if_false, Nat.zero_add, Nat.sub_zero, List.getElem?_append, List.getElem?_drop]
    split
    · rfl
    · congr 1; omega
  | c :: cs, k + 1, vs, 0, h => by simp [overlay]
  | c :: cs, k + 1, vs, j + 1, h => by
    simp only [overlay, List.getElem?_cons_succ]
    rw [overlay_get cs k vs j (by simp at h; omega)]
    simp only [Nat.add_lt_add_iff_right]
    have e : j + 1 - (k + 1) = j - k := by omega
    have e2 : (j + 1 < k + 1 + vs.length) ↔ (j < k + vs.length) := by omega
    simp only [e, e2]
  | [], k + 1, vs, j, h => by simp at h

theorem overlay_length : ∀ (cs : List Value) (k : Nat) (vs : List Value), k + vs.length ≤ cs.length → (overlay cs k vs).length = cs.length
  | cs, 0, vs, h => by simp [overlay]; omega
  | c :: cs, k + 1, vs, h => by simp only [overlay, List.length_cons]; rw [overlay_length cs k vs (by simp at h; omega)]
  | [], k + 1, vs, h => by simp at h

/-- The row behind a write. -/
theorem row_get (rc : Array Value) (o : Nat) (rs : List Value) (h : o + rs.length ≤ rc.size) (j : Nat) :
    ((rc.toList.take o ++ rs ++ rc.toList.drop (o + rs.length)).toArray)[j]? = if j < o then rc[j]? else if j < o + rs.length then rs[j - o]? else rc[j]? := by
  have hl : (rc.toList.take o).length = o := by simp; omega
  simp only [List.getElem?_toArray, List.append_assoc, List.getElem?_append, hl, List.getElem?_drop, List.getElem?_take]
  split
  · simp_all
  · rename_i h1
    by_cases h2 : j - o < rs.length
    · have h3 : j < o + rs.length := by omega
      simp [h2, h3]
    · have h3 : ¬ j < o + rs.length := by omega
      have e : o + rs.length + (j - o - rs.length) = j := by omega
      simp only [h2, h3, if_false, e, Array.getElem?_toList]

theorem Rel.wr (hR : Rel P N w0 γ H w) {b off : Nat} {vs rs : List Value} {I : Im} (hI : γ b = some I) (hE : EvOk H (.wr b off vs) H') (hv : VRels γ vs rs) (h1 : ∀ r ∈ rs, r.oneCell' = true) :
    ∃ w', (storeCells ⟨I.b, I.o + off, none⟩ rs).run P w = .ok () w' ∧ Rel P N w0 γ H' w' := by
  obtain ⟨x, hx, hro, hl, rfl⟩ := hE
  obtain ⟨g1, g2, g3, g4, rc, el, fr, g5, ge, g6, g7, g8⟩ := hR.at hx hI
  have hfr := g7 hro; subst hfr
  have hlen := hv.length
  have hfit : I.o + off + 0 + rs.length ≤ rc.size := by omega
  refine ⟨_, run_storeCells_at P I.b (I.o + off) el rs 0 rc w g5 hfit h1, ?_⟩
  have hlt : I.b < w.heap.size := (Array.getElem?_eq_some_iff.1 g5).1
  refine hR.put (Ext.refl γ) (hR.below.trans ⟨rfl, rfl, rfl, by simp, fun k hk => setRow_other w I.b k _ (by have := g4 hro; omega)⟩) (by simpa using hR.size) hI (fun _ _ => rfl) ?_ ?_ ?_
  · refine ⟨by rw [overlay_length _ _ _ hl]; exact g1, g2, g3, g4, _, el, (0, 0), setRow_heap w I.b rc _ el _ g5, ge, ?_, fun _ => rfl, ?_⟩
    · have : ((rc.toList.take (I.o + off + 0) ++ rs ++ rc.toList.drop (I.o + off + 0 + rs.length)).toArray).size = rc.size := by
        simp; omega
      rw [this]; exact g6
    · intro j v hj
      simp only at hj
      rw [overlay_get _ _ _ _ hl] at hj
      rw [row_get rc (I.o + off + 0) rs (by omega)]
      by_cases c1 : j < off
      · rw [if_pos c1] at hj
        rw [if_pos (by omega)]
        exact g8 j v hj
      · rw [if_neg c1] at hj
        rw [if_neg (by omega)]
        by_cases c2 : j < off + vs.length
        · rw [if_pos c2] at hj
          rw [if_pos (by omega)]
          obtain ⟨r, hr, hvr⟩ := hv.get hj
          refine ⟨r, ?_, hvr⟩
          rw [show I.o + j - (I.o + off + 0) = j - off by omega]; exact hr
        · rw [if_neg c2] at hj
          rw [if_neg (by omega)]
          exact g8 j v hj
  · intro _ j y J hj hy ha hJ
    exact hR.apart j b y (.live x) J I hy hx ha rfl hJ hI hj
  · intro j y J hj hy ha hJ
    exact setRow_other w I.b J.b _ (hR.apart j b y (.live x) J I hy hx ha rfl hJ hI hj)

/-- A new row of cells. -/
theorem Rel.newRow (hR : Rel P N w0 γ H w) {b : Nat} {vs rs : List Value} {el : TypeId} {ex : Bool} (hE : EvOk H (.new b (.live { cells := vs, elem := el, exact := ex, ro := false })) H') (hv : VRels γ vs rs)
    (more : List Value) (q e : Nat) (he : ex = true → e = 0) (hq : e ≠ 0 → sizeT P el = some q) (hm : e * q ≤ more.length) :
    ∃ γ', Ext γ γ' ∧ γ' b = some ⟨w.heap.size, 0, q, e, vs.length⟩ ∧ Rel P N w0 γ' H' (w.alloc (.cells (rs ++ more).toArray el)) := by
  obtain ⟨hb, rfl⟩ := hE
  have e1 := Ext.upd (hR.free b hb) ⟨w.heap.size, 0, q, e, vs.length⟩
  refine ⟨_, e1, upd_same _ _ _, (hR.new hb (.cells (rs ++ more).toArray el) (I := ⟨w.heap.size, 0, q, e, vs.length⟩) rfl ?_).2⟩
  have hl := hv.length
  refine ⟨rfl, he, hq, fun _ => hR.size, (rs ++ more).toArray, el, (0, 0), ?_, fun _ => rfl, by simp; omega, fun _ => rfl, ?_⟩
  · show (w.heap.push _)[w.heap.size]? = _
    simp
  · intro j v hj
    obtain ⟨r, hr, hvr⟩ := hv.get hj
    refine ⟨r, ?_, hvr.mono e1⟩
    have hj' : j < rs.length := (List.getElem?_eq_some_iff.1 hr).1
    simp [hj', List.getElem?_append, ← hr]

/-! ### Types -/
theorem run_und {t : TypeId} {d : TypeDesc} (h : P.underlying t = some d) : (underlying t).run P w = .ok d w := run_underlying h w
theorem run_info {t : TypeId} {i : TypeInfo} (h : P.info? t = some i) : (typeInfo t).run P w = .ok i w := by
  simp [typeInfo, h]
theorem run_size {t : TypeId} {n : Nat} (h : sizeT P t = some n) : (sizeOf t).run P w = .ok n w := by
  unfold sizeT at h
  cases hi : P.info? t with
  | none => simp [hi] at h
  | some i => simp [hi] at h; simp [sizeOf, run_info hi, h]
theorem zero_of {P : Program} {t : TypeId} {z : List Value} (h : zeroOf P t = some z) : ∃ v, v.cells.toList = z ∧ z.all plainV = true ∧ ∀ w : World, (zeroValue t).run P w = .ok v w := by
  unfold zeroOf at h
  cases hi : P.info? t with
  | none => simp [hi] at h
  | some i =>
    simp only [hi] at h
    cases hz : i.zero with
    | none => simp [hz] at h
    | some v =>
      simp only [hz] at h
      split at h
      · rename_i hp
        cases h
        exact ⟨v, rfl, hp, fun w => by simp [zeroValue, run_info hi, hz]⟩
      · cases h

theorem read_spec {s : St} {b off n : Nat} {vs : List Value} (h : s.read b off n = some vs) : vs.length = n ∧ EvOk s.h.get (.rd b off vs) s.h.get := by
  unfold St.read at h
  split at h
  · rename_i x hx
    simp only at h
    split at h
    · rename_i hl
      cases h
      exact ⟨hl, ⟨x, hx, by rw [hl]⟩, rfl⟩
    · cases h
  · cases h

/-! ### load, store -/
theorem load_ok {s : St} {t : TypeId} {x v r : Value} {es : List Ev} (h : vload P s t x = some (.val v es)) (hx : VRel γ x r) (hR : Rel P N w0 γ H w) (hE : EvsOk H es H') :
    ∃ rv, (Instr.loadAt t r).run P w = .ok rv w ∧ VRel γ v rv ∧ H' = H := by
  unfold vload at h
  split at h
  · rename_i b off
    obtain ⟨I, hI, rfl⟩ := hx.pointer_inv
    have agg : ∀ d, P.underlying t = some d → d.isRow = true → (match sizeT P t with | some n => (match s.read b off n with | some vs => some (VR.val (.agg vs.toArray) [.rd b off vs]) | none => none) | none => none) = some (.val v es) →
        ∃ rv, (Instr.loadAt t (.pointer (some ⟨I.b, I.o + off, none⟩))).run P w = .ok rv w ∧ VRel γ v rv ∧ H' = H := by
      intro d hd hrow h
      split at h
      · rename_i n hn
        split at h
        · rename_i vs hvs
          cases h
          obtain ⟨H1, h1, h2⟩ := hE
          cases h2
          obtain ⟨hH, rs, hrs, hrange⟩ := hR.rd hI h1
          have hlen := hrs.length
          have hl2 := (read_spec hvs).1
          exact ⟨_, run_loadAt_mid w I.b (I.o + off) t rs d hrange hd hrow (by unfold sizeT at hn; rw [hn, ← hlen, hl2]), .agg _ _ (by simpa using hrs), hH⟩
        · cases h
      · cases h
    split at h
    · cases h
    · rename_i fs hu; exact agg _ hu rfl h
    · rename_i n el hu; exact agg _ hu rfl h
    · rename_i d h1 h2 hu
      split at h
      · rename_i v' hvs
        cases h
        obtain ⟨H1, g1, g2⟩ := hE
        cases g2
        obtain ⟨hH, rs, hrs, hrange⟩ := hR.rd hI g1
        cases hrs with
        | cons _ r _ rs hvr hs =>
          cases hs
          refine ⟨r, ?_, hvr, hH⟩
          have hc : w.cell? ⟨I.b, I.o + off, none⟩ = some r := by simpa using hrange 0 r rfl
          have hagg : (isAgg t).run P w = .ok false w := by
            unfold isAgg
            rw [Sem.run_bind, run_und hu]
            cases d <;> first | rfl | exact absurd rfl (h1 _) | exact absurd rfl (h2 _ _)
          simp [Instr.loadAt, Instr.sureAddr, loadVar, hagg, hc]
      · cases h
  · cases h

theorem store_ok {t : TypeId} {x v u r ru : Value} {es : List Ev} (h : vstore P t v x = some (.val u es)) (hx : VRel γ x r) (hv : VRel γ v ru) (hR : Rel P N w0 γ H w) (hE : EvsOk H es H') :
    u = undef ∧ ∃ w', (Instr.storeAt t r ru).run P w = .ok () w' ∧ Rel P N w0 γ H' w' := by
  unfold vstore at h
  split at h
  · rename_i b off
    obtain ⟨I, hI, rfl⟩ := hx.pointer_inv
    split at h
    · rename_i n hn
      split at h
      · rename_i hc
        cases h
        refine ⟨rfl, ?_⟩
        have hcs := hv.cells
        have hlen := hcs.length
        have hone := hcs.ones hc.2
        have hst : ∀ w', (storeCells ⟨I.b, I.o + off, none⟩ ru.cells.toList).run P w = .ok () w' → (Instr.storeAt t (.pointer (some ⟨I.b, I.o + off, none⟩)) ru).run P w = .ok () w' := by
          intro w' hs
          have e : ¬ ru.cells.size ≠ n := by
            have h1 : ru.cells.size = v.cells.size := by simpa using hlen.symm
            simp [h1, hc.1]
          simp [Instr.storeAt, Instr.sureAddr, storeVar, run_size hn, e, hs]
        by_cases h0 : n = 0
        · rw [if_pos h0] at hE
          cases hE
          have : ru.cells.toList = [] := by
            apply List.eq_nil_of_length_eq_zero
            rw [← hlen]; simp [hc.1, h0]
          exact ⟨w, hst w (by rw [this]; rfl), hR⟩
        · rw [if_neg h0] at hE
          obtain ⟨H1, h1, h2⟩ := hE
          cases h2
          obtain ⟨w', hs, hR'⟩ := hR.wr hI h1 hcs hone
          exact ⟨w', hst w' hs, hR'⟩
      · cases h
    · cases h
  · cases h

end
end Go.Proofs.YtdjoolpdabffjaaGreatDoor.Vr
