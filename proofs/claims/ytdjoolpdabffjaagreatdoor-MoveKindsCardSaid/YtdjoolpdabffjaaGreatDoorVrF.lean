/- What single operations do: append, copy, clear. -/
import Derived.Test.YtdjoolpdabffjaaGreatDoorVrE
namespace Go.Proofs.YtdjoolpdabffjaaGreatDoor.Vr
open Go Go.Region Go.RowKit
section
variable {P : Program} {N : Nat} {w0 w : World} {γ : Gm} {H H' : Hp}

/-- What is appended, in the virtual run and in the real one. -/
theorem src_ok {s : St} {ux : TypeDesc} {el : TypeId} {i : TypeInfo} {z : Value} {zs : List Value} {n : Nat} {y ry : Value} {new : List Value} {es : List Ev} (hz : zeroOf P el = some zs) (hzz : z.cells.toList = zs)
    (h : (if isInt ux then vzeros P el y else vsource s i.size y) = some (n, new, es)) (hl : new.length = n * i.size) (hy : VRel γ y ry) (hR : Rel P N w0 γ H w) (hE : EvsOk H es H') :
    H' = H ∧ ∃ rs, VRels γ new rs ∧ Src P w ux z i n ry rs := by
  unfold Src
  split at h
  · rename_i hi
    simp only [hi, if_true]
    unfold vzeros at h
    split at h
    · rename_i m
      cases hy.of_plainV rfl
      rw [hz] at h
      simp only at h
      split at h
      · rename_i hm
        cases h
        cases hE
        obtain ⟨z', h1, h2, _⟩ := zero_of hz
        exact ⟨rfl, _, VRels.plain (copies_plain h2 _), by rw [Int.toNat_of_nonneg hm.1], by rw [hzz]⟩
      · cases h
    · cases h
  · rename_i hi
    simp only [hi]
    obtain ⟨hH, hlen, rs, hrs, hrun⟩ := source_ok h hl hy hR hE
    exact ⟨hH, rs, hrs, hlen, hrun⟩

theorem Rel.kill (hR : Rel P N w0 γ H w) {b : Nat} {I : Im} (hI : γ b = some I) : Rel P N w0 γ (upd H b .dead) w :=
  hR.put (Ext.refl γ) hR.below hR.size hI (fun _ _ => rfl) trivial (fun q => by cases q) (fun _ _ _ _ _ _ _ => rfl)

/-- The end of an append. -/
theorem grow_ok {s : St} {tys : Array TypeId} {sT xT el T : TypeId} {i : TypeInfo} {z : Value} {ux : TypeDesc} {n : Nat} {x v rx ry : Value} {new rs : List Value} {es0 es : List Ev}
    (ht0 : tys[0]? = some sT) (ht1 : tys[1]? = some xT) (hu : P.underlying sT = some (.slice el)) (hux : P.underlying xT = some ux) (hi : P.info? el = some i) (hz : ∀ w : World, (zeroValue el).run P w = .ok z w) (hzs : z.cells.size = i.size) (hby : i.bytes ≤ 4096) (hn : n ≤ 4096) (hkind : srcKind ux = true)
    (hone : oneCells new = true) (hnew : new.length = n * i.size) (hvs : VRels γ new rs) (hsrc : Src P w ux z i n ry rs) (h : vgrow s el i.size n new es0 x = some (.val v es)) (hx : VRel γ x rx) (hR : Rel P N w0 γ H w)
    (hE : ∀ es1 : List Ev, es = es0 ++ es1 → EvsOk H es1 H') :
    ∃ γ' rv w', Ext γ γ' ∧ VRel γ' v rv ∧ Rel P N w0 γ' H' w' ∧ (Builtin.append_ tys T #[rx, ry]).run P w = .ok rv w' := by
  have hrl : rs.length = n * i.size := by rw [← hvs.length, hnew]
  have hsz : sizeT P el = some i.size := by simp [sizeT, hi]
  unfold vgrow at h
  split at h
  · cases hx.of_plainV rfl
    split at h
    · cases h
      have := hE [] (by simp)
      cases this
      exact ⟨γ, .slice none 0 0, w, Ext.refl γ, .plain _ rfl, hR, append_here (base := none) ht0 ht1 hu hux hi hz hzs hby hn hkind (Nat.le_refl _) hsrc⟩
    · rename_i m
      cases h
      obtain ⟨H1, g1, g2⟩ := hE _ rfl
      cases g2
      obtain ⟨k, hrun⟩ := append_more (T := T) (base := none) (len := 0) (cap := 0) (old := #[]) ht0 ht1 hu hux hi hz hzs hby hn hkind (by omega) (by omega) hsrc rfl
      obtain ⟨γ', e, hγ, hR'⟩ := hR.drew.newRow g1 hvs (copies z.cells.toList k) i.size k (fun q => by cases q) (fun _ => hsz) (by rw [copies_length]; simp [hzs])
      refine ⟨γ', .slice (some ⟨w.heap.size, 0, none⟩) (m + 1) (m + 1 + k), _, e, ?_, hR', by rw [hrun]; simp⟩
      have := VRel.slice (γ := γ') s.n 0 (m + 1) (m + 1) k _ hγ (Nat.le_refl _) (fun _ => by simp [hnew])
      simpa using this
  · rename_i b off len cap
    obtain ⟨I, k, hI, hk, hc, rfl⟩ := hx.slice_inv
    split at h
    · rename_i hle
      cases h
      have hE := hE _ rfl
      have hh := append_here (T := T) (base := some ⟨I.b, I.o + off, none⟩) (len := len) (cap := cap + k) ht0 ht1 hu hux hi hz hzs hby hn hkind (by omega) hsrc
      by_cases h0 : n * i.size = 0
      · rw [if_pos h0] at hE
        cases hE
        have hnil : rs = [] := List.eq_nil_of_length_eq_zero (by omega)
        subst hnil
        exact ⟨γ, _, w, Ext.refl γ, VRel.slice b off (len + n) cap k I hI hk hc, hR, by rw [hh]; rfl⟩
      · rw [if_neg h0] at hE
        obtain ⟨H1, g1, g2⟩ := hE
        cases g2
        obtain ⟨w', hs, hR'⟩ := hR.wr hI g1 hvs (hvs.ones hone)
        refine ⟨γ, _, w', Ext.refl γ, VRel.slice b off (len + n) cap k I hI hk hc, hR', ?_⟩
        rw [hh]
        simp only [Addr.add_mid]
        rw [Nat.add_assoc, hs]
        rfl
    · rename_i hle
      split at h
      · rename_i hlim
        split at h
        · rename_i xb hxb
          split at h
          · rename_i old hold
            split at h
            · rename_i hel
              cases h
              obtain ⟨H1, g1, H2, g2, g3⟩ := hE _ rfl
              obtain ⟨rfl, ro, hro, hrange⟩ := hR.rd hI g1
              obtain ⟨⟨y, hy, hye, hyx⟩, rfl⟩ := g2
              have hol := (read_spec hold).1
              have hrol : ro.length = len * i.size := by rw [← hro.length, hol]
              obtain ⟨f1, f2, f3, f4, rc, el', fr, f5, fe, f6, f7, f8⟩ := hR.at hy hI
              by_cases hin : len + n ≤ cap + k
              · -- the array has room: it is written in place
                have hk0 : k ≠ 0 := by omega
                have he0 : I.e ≠ 0 := by omega
                have hex : xb.exact = false := by
                  cases hq : xb.exact with
                  | false => rfl
                  | true => exact absurd (f2 (hyx.trans hq)) he0
                have hq : I.q = i.size := by
                  have := f3 he0
                  rw [hye, hsz] at this
                  exact (Option.some.inj this).symm
                rw [hex] at g3
                obtain ⟨H3, g4, H4, g5, g6⟩ := g3
                cases g6
                obtain ⟨y', hy', hyro, rfl⟩ := g4
                rw [hy] at hy'; cases hy'
                obtain ⟨hfree, rfl⟩ := g5
                have hfr := f7 hyro; subst hfr
                have hel' := fe hyro; subst hel'
                have hcs := hc hk0
                rw [hq] at hcs f6
                have hmul : len * i.size + n * i.size ≤ (cap + k) * i.size := by rw [← Nat.add_mul]; exact Nat.mul_le_mul_right _ hin
                have hmul2 : (cap + k) * i.size = cap * i.size + k * i.size := Nat.add_mul _ _ _
                have hmul3 : k * i.size ≤ I.e * i.size := Nat.mul_le_mul_right _ hk
                have hfit : I.o + off + len * i.size + 0 + rs.length ≤ rc.size := by omega
                have hst := run_storeCells_at P I.b (I.o + off + len * i.size) y.elem rs 0 rc w f5 hfit (hvs.ones hone)
                have hh := append_here (T := T) (base := some ⟨I.b, I.o + off, none⟩) (len := len) (cap := cap + k) ht0 ht1 hu hux hi hz hzs hby hn hkind hin hsrc
                simp only [Addr.add_mid] at hh
                rw [hst] at hh
                have hRk := hR.kill hI
                have e := Ext.upd (hRk.free s.n hfree) ⟨I.b, I.o + off, i.size, cap + k - (len + n), (old ++ new).length⟩
                refine ⟨_, .slice (some ⟨I.b, I.o + off, none⟩) (len + n) (cap + k), _, e, ?_, ?_, hh⟩
                · have := VRel.slice (γ := upd γ s.n ⟨I.b, I.o + off, i.size, cap + k - (len + n), (old ++ new).length⟩) s.n 0 (len + n) (len + n) (cap + k - (len + n)) _ (upd_same _ _ _) (Nat.le_refl _)
                    (fun _ => by simp [hol, hnew, Nat.add_mul])
                  simpa [show len + n + (cap + k - (len + n)) = cap + k by omega] using this
                · have hlt : I.b < w.heap.size := (Array.getElem?_eq_some_iff.1 f5).1
                  have hne : s.n ≠ b := by
                    intro q
                    rw [q, upd_same] at hfree
                    cases hfree
                  refine hRk.put e (hR.below.trans ⟨rfl, rfl, rfl, by simp, fun j hj => setRow_other w I.b j _ (by have := f4 hyro; omega)⟩) (by simpa using hR.size) (upd_same _ _ _) (fun j hj => upd_ne γ _ hj) ?_ ?_ ?_
                  · refine ⟨rfl, fun q => (by cases q), fun _ => hsz, fun _ => f4 hyro, (rc.toList.take (I.o + off + len * i.size + 0) ++ rs ++ rc.toList.drop (I.o + off + len * i.size + 0 + rs.length)).toArray, el, (0, 0), ?_, fun _ => rfl, ?_, fun _ => rfl, ?_⟩
                    · have := setRow_heap w I.b rc (rc.toList.take (I.o + off + len * i.size + 0) ++ rs ++ rc.toList.drop (I.o + off + len * i.size + 0 + rs.length)).toArray y.elem _ f5
                      rw [hye] at this; exact this
                    · have : ((rc.toList.take (I.o + off + len * i.size + 0) ++ rs ++ rc.toList.drop (I.o + off + len * i.size + 0 + rs.length)).toArray).size = rc.size := by
                        simp; omega
                      rw [this]
                      simp only [List.length_append, hol, hnew]
                      have h1 : (len + n + (cap + k - (len + n))) * i.size = (cap + k) * i.size := by congr 1; omega
                      rw [Nat.add_mul, Nat.add_mul] at h1
                      omega
                    · intro j u hj
                      simp only at hj
                      dsimp only
                      rw [row_get rc (I.o + off + len * i.size + 0) rs (by omega)]
                      rw [List.getElem?_append] at hj
                      by_cases c1 : j < old.length
                      · rw [if_pos c1] at hj
                        rw [if_pos (by omega)]
                        obtain ⟨r, hr, hvr⟩ := hro.get hj
                        refine ⟨r, ?_, hvr.mono e⟩
                        have := hrange j r hr
                        simp only [World.cell?, f5] at this
                        simpa using this
                      · rw [if_neg c1] at hj
                        have c2 : j - old.length < new.length := (List.getElem?_eq_some_iff.1 hj).1
                        rw [if_neg (by omega), if_pos (by omega)]
                        obtain ⟨r, hr, hvr⟩ := hvs.get hj
                        refine ⟨r, ?_, hvr.mono e⟩
                        rw [show I.o + off + j - (I.o + off + len * i.size + 0) = j - old.length by omega]
                        exact hr
                  · intro _ j x J hj hx' ha hJ
                    by_cases hjb : j = b
                    · subst hjb; rw [upd_same] at hx'; cases hx'; cases ha
                    · rw [upd_ne _ _ hjb] at hx'
                      exact hR.apart j b x (.live y) J I hx' hy ha rfl hJ hI hjb
                  · intro j x J hj hx' ha hJ
                    by_cases hjb : j = b
                    · subst hjb; rw [upd_same] at hx'; cases hx'; cases ha
                    · rw [upd_ne _ _ hjb] at hx'
                      exact setRow_other w I.b J.b _ (hR.apart j b x (.live y) J I hx' hy ha rfl hJ hI hjb)
              · -- a new array
                have hold' : (Builtin.firstCells i.size len (.slice (some ⟨I.b, I.o + off, none⟩) len (cap + k))).run P w.drew = .ok ro.toArray w.drew := by
                  have := run_loadCells_list (P := P) w.drew ⟨I.b, I.o + off, none⟩ ro (fun j v hv => by rw [Addr.add_mid]; exact hrange j v hv)
                  rw [hrol] at this
                  exact this
                obtain ⟨k2, hrun⟩ := append_more (T := T) (base := some ⟨I.b, I.o + off, none⟩) ht0 ht1 hu hux hi hz hzs hby hn hkind (by omega) (by omega) hsrc hold'
                -- the elder block is let go, or it stays
                have hH : ∃ Hk, Rel P N w0 γ Hk w ∧ EvOk Hk (.new s.n (.live { cells := old ++ new, elem := el, exact := false, ro := false })) H' := by
                  cases hex : xb.exact with
                  | true =>
                    rw [hex] at g3
                    obtain ⟨H3, g4, g5⟩ := g3
                    cases g5
                    exact ⟨_, hR, g4⟩
                  | false =>
                    rw [hex] at g3
                    obtain ⟨H3, g4, H4, g5, g6⟩ := g3
                    cases g6
                    obtain ⟨y', hy', hyro, rfl⟩ := g4
                    exact ⟨_, hR.kill hI, g5⟩
                obtain ⟨Hk, hRk, hnewE⟩ := hH
                obtain ⟨γ', e, hγ, hR'⟩ := hRk.drew.newRow hnewE (hro.append hvs) (copies z.cells.toList k2) i.size k2 (fun q => by cases q) (fun _ => hsz) (by rw [copies_length]; simp [hzs])
                refine ⟨γ', .slice (some ⟨w.heap.size, 0, none⟩) (len + n) (len + n + k2), _, e, ?_, hR', by rw [hrun]; simp⟩
                have := VRel.slice (γ := γ') s.n 0 (len + n) (len + n) k2 _ hγ (Nat.le_refl _) (fun _ => by simp [hol, hnew, Nat.add_mul])
                simpa using this
            · cases h
          · cases h
        · cases h
      · cases h
  · cases h

end
end Go.Proofs.YtdjoolpdabffjaaGreatDoor.Vr
