/- What single operations do: new slices, append, copy. -/
import Derived.Test.YtdjoolpdabffjaaGreatDoorVrC
import Derived.IntWalk
namespace Go.Proofs.YtdjoolpdabffjaaGreatDoor.Vr
open Go Go.Region Go.RowKit
section
variable {P : Program} {N : Nat} {w0 w : World} {γ : Gm} {H H' : Hp}

theorem copies_length (z : List Value) : ∀ n, (copies z n).length = n * z.length
  | 0 => by simp [copies]
  | n + 1 => by simp [copies, copies_length z n, Nat.succ_mul, Nat.add_comm]
theorem copies_plain {z : List Value} (h : z.all plainV = true) : ∀ n, (copies z n).all plainV = true
  | 0 => rfl
  | n + 1 => by simp only [copies, List.all_append, h, copies_plain h n, Bool.and_self]
theorem range_copies (z : List Value) (d : Nat → Value) (hd : ∀ i (h : i < z.length), d i = z[i]) : ∀ n, ((List.range (n * z.length)).map fun i => d (i % z.length)) = copies z n
  | 0 => by simp [copies]
  | n + 1 => by
    have ih := range_copies z d hd n
    simp only [copies]
    rw [← ih, Nat.succ_mul, Nat.add_comm (n * z.length), List.range_add, List.map_append, List.map_map]
    congr 1
    · apply List.ext_getElem
      · simp
      · intro i h1 h2
        simp only [List.getElem_map, List.getElem_range, Nat.mod_eq_of_lt h2]
        exact hd i h2
    · apply List.map_congr_left
      intro i _
      show d ((z.length + i) % z.length) = _
      rw [Nat.add_mod_left]
theorem arr_copies (z : Array Value) (n : Nat) : ((Array.range (n * z.size)).map fun i => z[i % z.size]!) = (copies z.toList n).toArray := by
  apply Array.ext'
  simp only [Array.toList_map, Array.toList_range]
  exact range_copies z.toList (fun i => z[i]!) (fun i h => by have : i < z.size := by simpa using h
                                                              simp [this]) n

theorem map_range0 (f : Nat → Value) : (Array.range 0).map f = #[] := by
  apply Array.ext'
  simp

theorem makeSlice_ok {s : St} {t : TypeId} {l c v rl rc : Value} {es : List Ev} (h : vmakeSlice P s t l c = some (.val v es)) (hl : VRel γ l rl) (hc : VRel γ c rc) (hR : Rel P N w0 γ H w) (hE : EvsOk H es H') :
    ∃ γ' rv w', Ext γ γ' ∧ VRel γ' v rv ∧ Rel P N w0 γ' H' w' ∧ (Instr.makeSlice t rl rc).run P w = .ok rv w' := by
  unfold vmakeSlice at h
  split at h
  · rename_i l c
    cases hl.of_plainV rfl
    cases hc.of_plainV rfl
    split at h
    · rename_i el hu
      split at h
      · rename_i i zero hi hz
        split at h
        · rename_i hcond
          cases h
          obtain ⟨h0, h1, h2, h3, h4⟩ := hcond
          obtain ⟨z, hzc, hzp, hzr⟩ := zero_of hz
          obtain ⟨H1, g1, g2⟩ := hE
          cases g2
          have hv : VRels γ (copies zero c.toNat) (copies zero c.toNat) := VRels.plain (copies_plain hzp _)
          obtain ⟨γ', e, hγ, hR'⟩ := hR.newRow g1 hv [] 0 0 (fun _ => rfl) (fun q => absurd rfl q) (by simp)
          refine ⟨γ', .slice (some ⟨w.heap.size, 0, none⟩) l.toNat c.toNat, _, e, ?_, hR', ?_⟩
          · exact VRel.slice s.n 0 l.toNat c.toNat 0 _ hγ (Nat.le_refl _) (fun q => absurd rfl q)
          · have wl : IntKind.i64.wrap l = l := IntWalk.i64_in _ (by omega)
            have wc : IntKind.i64.wrap c = c := IntWalk.i64_in _ (by omega)
            have hb : (i.bytes : Int) * c ≤ 2 ^ 48 := by
              have b1 : (i.bytes : Int) ≤ 4096 := by omega
              have b2 : (i.bytes : Int) * c ≤ 4096 * c := Int.mul_le_mul_of_nonneg_right b1 (by omega)
              omega
            have t1 : (decide (c < 0) || decide ((i.bytes : Int) * c > 2 ^ 48)) = false := by
              simp only [Bool.or_eq_false_iff, decide_eq_false_iff_not]; omega
            have hsz : z.cells.size = i.size := by rw [← h4, ← hzc]; simp
            have hsize : (sizeOf el).run P w = .ok i.size w := run_size (by simp [sizeT, hi])
            have hrow : ((Array.range (c.toNat * i.size)).map fun k => z.cells[k % z.cells.size]!) = (copies zero c.toNat ++ []).toArray := by
              rw [List.append_nil, ← hzc, ← hsz]; exact arr_copies _ _
            have hcond2 : ¬ (((decide (c < 0) || decide ((i.bytes : Int) * c > 2 ^ 48)) || decide (l < 0)) || decide (l > c)) = true := by
              rw [t1]; simp only [Bool.false_or, Bool.or_eq_true, decide_eq_true_eq]; omega
            simp only [Instr.makeSlice, Sem.run_bind, run_und hu, Result.andThen_ok, asInt, asIntOf, Sem.run_pure, run_info hi, wl, wc]
            rw [if_neg (by simpa using hcond2)]
            simp only [Sem.run_bind, Result.andThen_ok, run_askRoom, hsize]
            by_cases hn : c.toNat * i.size = 0
            · have hnil : copies zero c.toNat ++ [] = [] := by
                apply List.eq_nil_of_length_eq_zero
                rw [List.append_nil, copies_length, h4, hn]
              rw [hnil]
              simp [hn, newRow, World.alloc_eq, map_range0]
            · rw [if_neg hn]
              simp only [Sem.run_bind, hzr, Sem.run_pure, Result.andThen_ok, hrow, newRow, run_newObj, World.alloc_eq]
        · cases h
      · cases h
    · cases h
  · cases h

theorem buildSlice_ok {s : St} {t : TypeId} {len : Nat} {parts parts' : List (Nat × Value)} {v : Value} {es : List Ev} (h : vbuildSlice P s t len parts = some (.val v es)) (h1 : parts.map (·.1) = parts'.map (·.1))
    (h2 : VRels γ (parts.map (·.2)) (parts'.map (·.2))) (hR : Rel P N w0 γ H w) (hE : EvsOk H es H') :
    ∃ γ' rv w', Ext γ γ' ∧ VRel γ' v rv ∧ Rel P N w0 γ' H' w' ∧ (Instr.buildSlice t len parts'.toArray).run P w = .ok rv w' := by
  unfold vbuildSlice at h
  split at h
  · rename_i el hu
    split at h
    · rename_i n zero hn hz
      split at h
      · rename_i hcond
        split at h
        · rename_i cs hcs
          cases h
          obtain ⟨z, hzc, hzp, hzr⟩ := zero_of hz
          obtain ⟨H1, g1, g2⟩ := hE
          cases g2
          have hsz : z.cells.size = n := by rw [← hcond.2, ← hzc]; simp
          obtain ⟨out, ho, hr⟩ := fill_ok (cells' := (copies zero len).toArray) hcs (VRels.plain (copies_plain hzp _)) h1 h2
          obtain ⟨γ', e, hγ, hR'⟩ := hR.newRow g1 hr [] 0 0 (fun _ => rfl) (fun q => absurd rfl q) (by simp)
          refine ⟨γ', .slice (some ⟨w.heap.size, 0, none⟩) len len, _, e, ?_, hR', ?_⟩
          · exact VRel.slice s.n 0 len len 0 _ hγ (Nat.le_refl _) (fun q => absurd rfl q)
          · have hrow : ((Array.range (len * n)).map fun k => z.cells[k % z.cells.size]!) = (copies zero len).toArray := by
              rw [← hzc, ← hsz]; exact arr_copies _ _
            have hlim : ¬ len * n > 2 ^ 24 := by omega
            have e2 : (out.toList ++ []).toArray = out := by simp
            rw [e2]
            simp only [Instr.buildSlice, Sem.run_bind, run_und hu, Result.andThen_ok, run_size hn]
            rw [if_neg hlim]
            by_cases h0 : len * n = 0
            · have hnil : copies zero len = [] := by
                apply List.eq_nil_of_length_eq_zero
                rw [copies_length, hcond.2, h0]
              have e0 : ((Array.range (len * n)).map fun k => (#[] : Array Value)[k % (#[] : Array Value).size]!) = #[] := by rw [h0]; exact map_range0 _
              rw [hnil] at ho
              simp only [h0, if_true, Sem.run_bind, Sem.run_pure, Result.andThen_ok]
              rw [h0] at e0
              rw [e0, ho]
              simp [newRow, World.alloc_eq]
            · rw [if_neg h0]
              simp only [Sem.run_bind, hzr, Sem.run_pure, Result.andThen_ok, hrow, ho]
              simp [newRow, World.alloc_eq]
        · cases h
      · cases h
    · cases h
  · cases h

/-! ### append -/
theorem source_ok {s : St} {size n : Nat} {y r : Value} {new : List Value} {es : List Ev} (h : vsource s size y = some (n, new, es)) (hl : new.length = n * size) (hy : VRel γ y r) (hR : Rel P N w0 γ H w) (hE : EvsOk H es H') :
    H' = H ∧ (Builtin.lenOf r).run P w = .ok n w ∧ ∃ rs, VRels γ new rs ∧ ∀ w' : World, w'.heap = w.heap → (Builtin.firstCells size n r).run P w' = .ok rs.toArray w' := by
  unfold vsource at h
  split at h
  · cases h
    cases hE
    cases hy.of_plainV rfl
    exact ⟨rfl, rfl, [], .nil, fun _ _ => rfl⟩
  · rename_i b off m cap
    obtain ⟨I, k, hI, hk, hc, rfl⟩ := hy.slice_inv
    split at h
    · rename_i vs hvs
      cases h
      obtain ⟨H1, g1, g2⟩ := hE
      cases g2
      obtain ⟨hH, rs, hrs, hrange⟩ := hR.rd hI g1
      refine ⟨hH, rfl, rs, hrs, fun w' hw' => ?_⟩
      have hll : rs.length = n * size := by rw [← hrs.length, hl]
      have := run_loadCells_list (P := P) w' ⟨I.b, I.o + off, none⟩ rs (fun j v hv => by rw [Addr.add_mid]; have := hrange j v hv; simp only [World.cell?, hw'] at this ⊢; exact this)
      rw [hll] at this
      exact this
    · cases h
  · rename_i st
    cases h
    cases hE
    cases hy.of_plainV rfl
    refine ⟨rfl, rfl, _, VRels.plain (List.all_eq_true.2 fun v hv => by obtain ⟨b, _, rfl⟩ := List.mem_map.1 hv; rfl), fun w' _ => ?_⟩
    have e : st.extract 0 st.size = st := ByteArray.extract_zero_size
    simp only [Builtin.firstCells, Sem.run_pure, e]
    congr 1
    apply Array.ext'
    simp
  · cases h

theorem zeroCells_eq (z : Array Value) (n : Nat) : Builtin.zeroCells z n = (copies z.toList n).toArray := arr_copies z n

theorem grow_small {need cap : Nat} (h : cap < need) (hn : need ≤ 8192) : Builtin.nextslicecap need cap ≤ 20000 := by
  have hg : ∀ r c, c ≤ need → Builtin.growBy need r c ≤ 2 * need + 1000 := by
    intro r
    induction r with
    | zero => intro c hc; simp [Builtin.growBy]; omega
    | succ r ih =>
      intro c hc
      simp only [Builtin.growBy]
      split
      · omega
      · rename_i hlt
        by_cases h2 : c + (c + 768) / 4 ≤ need
        · exact ih _ h2
        · cases r with
          | zero => simp only [Builtin.growBy]; omega
          | succ r => simp only [Builtin.growBy]; rw [if_pos (by omega)]; omega
  unfold Builtin.nextslicecap
  split
  · omega
  · split
    · omega
    · have := hg 4 cap (by omega); omega

/-- The cells that are appended, in a world whose memory is w's. -/
def Src (P : Program) (w : World) (ux : TypeDesc) (z : Value) (i : TypeInfo) (n : Nat) (ry : Value) (rs : List Value) : Prop :=
  if isInt ux = true then ry = .int .i64 n ∧ rs = copies z.cells.toList n else (Builtin.lenOf ry).run P w = .ok n w ∧ (∀ w' : World, w'.heap = w.heap → (Builtin.firstCells i.size n ry).run P w' = .ok rs.toArray w')

theorem append_here {tys : Array TypeId} {sT xT el : TypeId} {i : TypeInfo} {z : Value} {ux : TypeDesc} {n : Nat} {base : Option Addr} {len cap : Nat} {ry : Value} {rs : List Value} {T : TypeId}
    (ht0 : tys[0]? = some sT) (ht1 : tys[1]? = some xT) (hu : P.underlying sT = some (.slice el)) (hux : P.underlying xT = some ux) (hi : P.info? el = some i) (hz : ∀ w : World, (zeroValue el).run P w = .ok z w) (hzs : z.cells.size = i.size) (hby : i.bytes ≤ 4096) (hn : n ≤ 4096) (hkind : srcKind ux = true)
    (hc : len + n ≤ cap) (hsrc : Src P w ux z i n ry rs) :
    (Builtin.append_ tys T #[.slice base len cap, ry]).run P w =
      match base with
        | some a => ((storeCells (a.add (len * i.size)) rs).run P w).andThen fun _ w' => .ok (.slice base (len + n) cap) w'
        | none => .ok (.slice base (len + n) cap) w := by
  have hsize : (sizeOf el).run P w = .ok i.size w := run_size (by simp [sizeT, hi])
  unfold Src at hsrc
  by_cases hint : isInt ux = true
  · rw [if_pos hint] at hsrc
    obtain ⟨rfl, rfl⟩ := hsrc
    cases ux <;> first | (simp [isInt] at hint; done) | skip
    have wl : IntKind.i64.wrap (n : Int) = n := IntWalk.i64_in _ (by omega)
    have h1 : ¬ ((n : Int) < 0) := by omega
    have hb : ¬ ((n : Int) * (i.bytes : Int) > 2 ^ 48) := by
      have b1 : (i.bytes : Int) ≤ 4096 := by omega
      have b2 : (n : Int) * (i.bytes : Int) ≤ n * 4096 := Int.mul_le_mul_of_nonneg_left b1 (by omega)
      omega
    have hap : (if n * i.size = 0 then (pure #[] : Sem (Array Value)) else (do pure (Builtin.zeroCells (← zeroValue el).cells n))).run P w = .ok (copies z.cells.toList n).toArray w := by
      by_cases h0 : n * i.size = 0
      · have : copies z.cells.toList n = [] := List.eq_nil_of_length_eq_zero (by rw [copies_length]; simpa [hzs] using h0)
        rw [if_pos h0, this]; rfl
      · rw [if_neg h0]
        simp [hz, zeroCells_eq]
    by_cases h0 : n * i.size = 0
    · have hnil : copies z.cells.toList n = [] := List.eq_nil_of_length_eq_zero (by rw [copies_length]; simpa [hzs] using h0)
      rw [hnil]
      simp only [Builtin.append_, Sem.run_bind, run_und hu, run_und hux, ht0, ht1, hsize, Result.andThen_ok, Sem.run_pure, List.getElem?_toArray, List.getElem?_cons_zero, List.getElem?_cons_succ, asInt, asIntOf, wl, run_info hi, if_true, if_neg h1, if_neg hb, Int.toNat_natCast,
        if_pos hc, Bool.not_true, Bool.false_eq_true, if_false, if_pos h0, Sem.run_ite, Result.andThen_ite]
      cases base <;> first | rfl | (simp only [Sem.run_bind, Sem.run_pure])
    · simp only [Builtin.append_, Sem.run_bind, run_und hu, run_und hux, ht0, ht1, hsize, Result.andThen_ok, Sem.run_pure, List.getElem?_toArray, List.getElem?_cons_zero, List.getElem?_cons_succ, asInt, asIntOf, wl, run_info hi, if_true, if_neg h1, if_neg hb, Int.toNat_natCast,
        if_pos hc, Bool.not_true, Bool.false_eq_true, if_false, if_neg h0, Sem.run_ite, Result.andThen_ite, hz, zeroCells_eq]
      cases base <;> first | rfl | (simp only [Sem.run_bind, Sem.run_pure])
  · rw [if_neg hint] at hsrc
    obtain ⟨hlen, hcs⟩ := hsrc
    have hcs := hcs w rfl
    cases ux <;> first
      | (exact absurd rfl hint)
      | (cases hkind; done)
      | (simp only [Builtin.append_, Sem.run_bind, run_und hu, run_und hux, ht0, ht1, hsize, Result.andThen_ok, Sem.run_pure, List.getElem?_toArray, List.getElem?_cons_zero, List.getElem?_cons_succ, Bool.false_eq_true, if_false, hlen, hc, if_true, Bool.not_false, hcs]
         cases base <;> first | rfl | (simp only [Sem.run_bind, Sem.run_pure]))

end
end Go.Proofs.YtdjoolpdabffjaaGreatDoor.Vr
