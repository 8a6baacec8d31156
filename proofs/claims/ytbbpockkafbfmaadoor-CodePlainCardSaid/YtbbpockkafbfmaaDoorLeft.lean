/-
  The map of a code as data, and the walk of left over it.
-/
import Derived.Test.YtbbpockkafbfmaaDoorPair
namespace Go.Proofs.YtbbpockkafbfmaaDoor
open Go.RowKit

/-- The map of a code as data. -/
structure DM where
  n : Nat
  m : Nat
  ls : List Lt
  ab : List Bool
  ax : List Nat
  sp : List Nat
  ot : List Nat
def DM.left (D : DM) (d : Nat) : Nat :=
  match D.ls[endM D.n d]? with
  | some l =>
    if l.kind = 2 then leaveM D.n (D.ot.getD (endM D.n d) 0) (decide (d % 2 = 1) == (l.over == decide (l.sign = 1)))
    else leaveM D.n (D.ax.getD (nextM D.m (D.sp.getD (endM D.n d) 0) (D.ab.getD (d / 2) false)) 0) (D.ab.getD (D.ax.getD (nextM D.m (D.sp.getD (endM D.n d) 0) (D.ab.getD (d / 2) false)) 0) false != D.ab.getD (d / 2) false)
  | none => 0
structure DM.ok (D : DM) : Prop where
  ls : D.ls.length = D.n
  ab : D.ab.length = D.n
  ax : D.ax.length = D.m
  sp : D.sp.length = D.n
  ot : D.ot.length = D.n
  n0 : 0 < D.n
  n1 : D.n ≤ 1000
  m1 : D.m ≤ 1000000
  axb : ∀ q, q < D.m → D.ax.getD q 0 < D.n
  spb : ∀ i l, D.ls[i]? = some l → l.kind ≠ 2 → D.sp.getD i 0 < D.m
  otb : ∀ i, i < D.n → D.ot.getD i 0 < D.n
theorem getD_some {α : Type} {l : List α} {i : Nat} {z : α} (h : i < l.length) : l[i]? = some (l.getD i z) := by
  rw [List.getD_eq_getElem?_getD, List.getElem?_eq_getElem h]
  rfl
theorem endM_lt {n d : Nat} (hn : 0 < n) (hd : d < 2 * n) : endM n d < n := by
  unfold endM
  split
  · omega
  · exact Nat.mod_lt _ hn
theorem leaveM_lt {n i : Nat} {b : Bool} (hi : i < n) : leaveM n i b < 2 * n := by
  unfold leaveM
  split
  · have := Nat.mod_lt (i + n - 1) (show 0 < n by omega)
    omega
  · omega
theorem nextM_lt {m s : Nat} {u : Bool} (hs : s < m) : nextM m s u < m := by
  unfold nextM
  split <;> exact Nat.mod_lt _ (by omega)
theorem DM.left_lt {D : DM} (k : D.ok) {d : Nat} (hd : d < 2 * D.n) : D.left d < 2 * D.n := by
  have he := endM_lt k.n0 hd
  have hl := getD_some (l := D.ls) (z := ⟨0, 0, 0, 0, 0, false⟩) (by rw [k.ls]; exact he)
  unfold DM.left
  rw [hl]
  dsimp only
  split
  · exact leaveM_lt (k.otb _ he)
  · rename_i hk
    exact leaveM_lt (k.axb _ (nextM_lt (k.spb _ _ hl hk)))

theorem getD_set_nat {l : List Nat} {i q x : Nat} : (l.set i x).getD q 0 = if i = q ∧ q < l.length then x else l.getD q 0 := by
  rw [List.getD_eq_getElem?_getD, List.getElem?_set]
  by_cases e : i = q
  · subst e
    by_cases h : i < l.length
    · simp [h]
    · simp [h, List.getD_eq_getElem?_getD]
  · simp [e]
theorem ordM_facts {ls : List Lt} {m n : Nat} (hn : 0 < n) : ∀ {j : Nat} {st : OrdS}, j ≤ n → ordM ls m n j = some st →
    st.tk.length = m ∧ st.ax.length = m ∧ st.sp.length = n ∧ (∀ q, st.ax.getD q 0 < n) ∧ (∀ i l, i < j → ls[i]? = some l → l.kind = 1 → st.sp.getD i 0 < m)
  | 0, st, _, h => by
    rw [ordM] at h
    injection h with h
    subst h
    refine ⟨by simp, by simp, by simp, fun q => ?_, fun i l hi => by omega⟩
    simp only [List.getD_eq_getElem?_getD, List.getElem?_replicate]
    split <;> simpa using hn
  | j + 1, st, hj, h => by
    rw [ordM] at h
    cases h0 : ordM ls m n j with
    | none => rw [h0] at h; cases h
    | some s0 =>
      rw [h0, Option.bind_some] at h
      obtain ⟨i1, i2, i3, i4, i5⟩ := ordM_facts hn (by omega) h0
      cases hl : ls[j]? with
      | none =>
        rw [hl] at h
        injection h with h
        subst h
        refine ⟨i1, i2, i3, i4, fun i l hi hli hk => ?_⟩
        by_cases e : i = j
        · subst e; rw [hl] at hli; cases hli
        · exact i5 i l (by omega) hli hk
      | some l =>
        rw [hl] at h
        simp only [ordStep] at h
        split at h
        · split at h
          · split at h
            · rename_i hk hr htk
              injection h with h
              subst h
              obtain ⟨p, hp⟩ : ∃ p, (befG ls l.gate.toNat + l.rank - 1).toNat = p := ⟨_, rfl⟩
              rw [hp] at htk ⊢
              have hpm : p < m := by
                rcases Nat.lt_or_ge p s0.tk.length with q | q
                · omega
                · rw [List.getElem?_eq_none q] at htk; cases htk
              refine ⟨by simp [i1], by simp [i2], by simp [i3], fun q => ?_, fun i l2 hi hli hk2 => ?_⟩
              · dsimp only
                rw [getD_set_nat]
                split
                · omega
                · exact i4 q
              · dsimp only
                rw [getD_set_nat]
                split
                · exact hpm
                · rename_i hne
                  have : i ≠ j := fun e => hne ⟨e.symm, by rw [i3]; omega⟩
                  exact i5 i l2 (by omega) hli hk2
            · cases h
          · cases h
        · rename_i hk
          injection h with h
          subst h
          refine ⟨i1, i2, i3, i4, fun i l2 hi hli hk2 => ?_⟩
          by_cases e : i = j
          · subst e; rw [hl] at hli; injection hli with hli; subst hli; exact absurd hk2 hk
          · exact i5 i l2 (by omega) hli hk2
theorem pairM_facts {ls : List Lt} {xc : Int} {n : Nat} (hn : 0 < n) : ∀ {j : Nat} {st : PairS}, j ≤ n → pairM ls xc n j = some st → st.ot.length = n ∧ (∀ q, st.ot.getD q 0 < n)
  | 0, st, _, h => by
    rw [pairM] at h
    injection h with h
    subst h
    refine ⟨by simp, fun q => ?_⟩
    simp only [List.getD_eq_getElem?_getD, List.getElem?_replicate]
    split <;> simpa using hn
  | j + 1, st, hj, h => by
    rw [pairM] at h
    cases h0 : pairM ls xc n j with
    | none => rw [h0] at h; cases h
    | some s0 =>
      rw [h0, Option.bind_some] at h
      obtain ⟨i1, i2⟩ := pairM_facts hn (by omega) h0
      cases hl : ls[j]? with
      | none => rw [hl] at h; injection h with h; subst h; exact ⟨i1, i2⟩
      | some l =>
        rw [hl] at h
        simp only [pairStep] at h
        split at h
        · split at h
          · rename_i f hf
            split at h
            · injection h with h
              subst h
              refine ⟨by simp [i1], fun q => ?_⟩
              dsimp only
              rw [getD_set_nat]
              split
              · have := pairM_vis h0 _ _ hf; omega
              · rw [getD_set_nat]
                split
                · omega
                · exact i2 q
            · cases h
          · split at h
            · injection h with h; subst h; exact ⟨i1, i2⟩
            · cases h
        · injection h with h; subst h; exact ⟨i1, i2⟩

/-- The map of a code in memory. -/
def DMem (D : DM) (w : World) (P : Nat) (f : Int) (A Aa Ax As Ao : Option Addr) (c ca cx cs co : Nat) : Prop :=
  Dia w P f (.slice A D.n c) (.slice Aa D.n ca) (.slice Ax D.m cx) (.slice As D.n cs) (.slice Ao D.n co) ∧ LS w A D.n D.ls ∧ BL w Aa D.n D.ab ∧ SL w Ax D.m (D.ax.map Int.ofNat) ∧ SL w As D.n (D.sp.map Int.ofNat) ∧ SL w Ao D.n (D.ot.map Int.ofNat)
theorem DMem.below {D : DM} {w w' : World} {P : Nat} {f : Int} {A Aa Ax As Ao : Option Addr} {c ca cx cs co : Nat} (h : DMem D w P f A Aa Ax As Ao c ca cx cs co) (hb : Below w.heap.size w w') : DMem D w' P f A Aa Ax As Ao c ca cx cs co :=
  ⟨h.1.below hb, h.2.1.below hb, h.2.2.1.below hb, h.2.2.2.1.below hb, h.2.2.2.2.1.below hb, h.2.2.2.2.2.below hb⟩

theorem map_ofNat_at {l : List Nat} {i : Nat} (h : i < l.length) : (l.map Int.ofNat)[i]? = some ((l.getD i 0 : Nat) : Int) := by
  rw [List.getElem?_map, getD_some (z := 0) h]
  rfl

theorem left_calls {D : DM} (k : D.ok) {w : World} {P : Nat} {f : Int} {A Aa Ax As Ao : Option Addr} {c ca cx cs co : Nat} (h : DMem D w P f A Aa Ax As Ao c ca cx cs co) {d : Nat} (hd : d < 2 * D.n) :
    Calls Tryd.prog 83 #[.pointer (some ⟨P, 0, none⟩), .int .i64 (d : Int)] w fun e w' => e = .returned (.int .i64 (D.left d)) ∧ Below w.heap.size w w' := by
  obtain ⟨h1, hL, hA, hX, hS, hO⟩ := h
  have he := endM_lt k.n0 hd
  have hl := getD_some (l := D.ls) (z := ⟨0, 0, 0, 0, 0, false⟩) (by rw [k.ls]; exact he)
  have HE : D.left d = if (D.ls.getD (endM D.n d) ⟨0, 0, 0, 0, 0, false⟩).kind = 2 then leaveM D.n (D.ot.getD (endM D.n d) 0) (decide (d % 2 = 1) == ((D.ls.getD (endM D.n d) ⟨0, 0, 0, 0, 0, false⟩).over == decide ((D.ls.getD (endM D.n d) ⟨0, 0, 0, 0, 0, false⟩).sign = 1)))
    else leaveM D.n (D.ax.getD (nextM D.m (D.sp.getD (endM D.n d) 0) (D.ab.getD (d / 2) false)) 0) (D.ab.getD (D.ax.getD (nextM D.m (D.sp.getD (endM D.n d) 0) (D.ab.getD (d / 2) false)) 0) false != D.ab.getD (d / 2) false) := by
    unfold DM.left
    rw [hl]
  rw [HE]
  have kn := k.n1
  have km := k.m1
  by_cases hk : (D.ls.getD (endM D.n d) ⟨0, 0, 0, 0, 0, false⟩).kind = 2
  · rw [if_pos hk]
    exact left_cross P f A Ao D.n c d (endM D.n d) (D.ot.getD (endM D.n d) 0) D.n co D.ls (D.ot.map Int.ofNat) _ _ _ _ w h1 hL hO (by omega) hd rfl he he hl hk
      (map_ofNat_at (by rw [k.ot]; exact he)) (k.otb _ he)
  · rw [if_neg hk]
    have hs := k.spb _ _ hl hk
    have hx := k.axb _ (nextM_lt (u := D.ab.getD (d / 2) false) hs)
    exact left_pass P f A Aa Ax As D.n c d (endM D.n d) (D.sp.getD (endM D.n d) 0) (D.ax.getD (nextM D.m (D.sp.getD (endM D.n d) 0) (D.ab.getD (d / 2) false)) 0) D.n ca D.m cx D.n cs D.ls D.ab (D.ax.map Int.ofNat) (D.sp.map Int.ofNat) _
      (D.ab.getD (d / 2) false) (D.ab.getD (D.ax.getD (nextM D.m (D.sp.getD (endM D.n d) 0) (D.ab.getD (d / 2) false)) 0) false) _ w h1 hL hA hX hS (by omega) hd rfl he he hl hk
      (map_ofNat_at (by rw [k.sp]; exact he)) hs km (by omega) (getD_some (by rw [k.ab]; omega)) (map_ofNat_at (by rw [k.ax]; exact nextM_lt hs)) hx (getD_some (by rw [k.ab]; exact hx)) hx

/-- Where the walk of the faces is: the darts that have been met, all of them in order, the faces as pieces of these. -/
structure WS where
  met : List Bool
  ds : List Nat
  all : List (Nat × Nat)
/-- One face's walk: whether it came back to its first dart. -/
def DM.inner (D : DM) (first start : Nat) : Nat → Nat → List Bool → List Nat → Bool × List Bool × List Nat
  | 0, _, met, ds => (false, met, ds)
  | fuel + 1, dart, met, ds =>
    if ds.length = start ∨ dart ≠ first then
      if met.getD dart false then (false, met, ds) else D.inner first start fuel (D.left dart) (met.set dart true) (ds ++ [dart])
    else (true, met, ds)
def DM.outer (D : DM) : Nat → WS
  | 0 => ⟨List.replicate (2 * D.n) false, [], []⟩
  | k + 1 =>
    let s := D.outer k
    let r := D.inner k s.ds.length (2 * D.n + 1) k s.met s.ds
    ⟨r.2.1, r.2.2, if r.1 then s.all ++ [(s.ds.length, r.2.2.length)] else s.all⟩

end Go.Proofs.YtbbpockkafbfmaaDoor
