/- A region that draws its order. -/
import Derived.Test.YtdjoolpdabffjaaGreatDoorVrSwap
namespace Go.Proofs.YtdjoolpdabffjaaGreatDoor.Vr
open Go Go.Region Go.RowKit

/-! ### What must come first -/
def maskF (acc : List Nat) (l : List Edge) (m : Nat) : Nat := l.foldl (fun m e => if binds .any e then m ||| 2 ^ e.on ||| acc.getD e.on 0 else m) m

theorem maskF_bit (acc : List Nat) (k : Nat) : ∀ (l : List Edge) (m : Nat), (maskF acc l m).testBit k = true → m.testBit k = true ∨ ∃ e ∈ l, binds .any e = true ∧ (k = e.on ∨ (acc.getD e.on 0).testBit k = true)
  | [], m, h => .inl h
  | e :: l, m, h => by
    have h' : (maskF acc l (if binds .any e then m ||| 2 ^ e.on ||| acc.getD e.on 0 else m)).testBit k = true := h
    rcases maskF_bit acc k l _ h' with h1 | ⟨e', he', hb, hk⟩
    · split at h1
      · rename_i hb
        simp only [Nat.testBit_or, Bool.or_eq_true, Nat.testBit_two_pow, decide_eq_true_eq] at h1
        rcases h1 with (h1 | h1) | h1
        · exact .inl h1
        · exact .inr ⟨e, by simp, hb, .inl h1.symm⟩
        · exact .inr ⟨e, by simp, hb, .inr h1⟩
      · exact .inl h1
    · exact .inr ⟨e', by simp [he'], hb, hk⟩

theorem ancGo_spec : ∀ (l : List Oper) (acc : List Nat), ∃ more : List Nat, ancGo l acc = acc ++ more ∧ more.length = l.length ∧ ∀ (j : Nat) (o : Oper), l[j]? = some o → more[j]? = some (maskF ((acc ++ more).take (acc.length + j)) o.after.toList 0)
  | [], acc => ⟨[], by simp [ancGo], rfl, fun j o h => by simp at h⟩
  | o :: l, acc => by
    obtain ⟨more, h1, h2, h3⟩ := ancGo_spec l (acc ++ [maskF acc o.after.toList 0])
    refine ⟨maskF acc o.after.toList 0 :: more, ?_, by simp [h2], fun j o' hj => ?_⟩
    · simp only [ancGo, force_eq]
      have : (o.after.toList.foldl (fun m e => if binds .any e then m ||| 2 ^ e.on ||| acc.getD e.on 0 else m) 0) = maskF acc o.after.toList 0 := rfl
      rw [this, h1]
      simp
    · cases j with
      | zero =>
        simp at hj
        subst hj
        simp
      | succ j =>
        have := h3 j o' (by simpa using hj)
        simp only [List.getElem?_cons_succ]
        rw [this]
        congr 2
        simp [Nat.add_assoc, Nat.add_comm 1 j]

theorem edge_lt : ∀ {l : List Oper} {j0 : Nat}, edgesL l j0 = true → ∀ (j : Nat) (o : Oper), l[j]? = some o → ∀ e ∈ o.after.toList, binds .any e = true → e.on < j0 + j
  | [], _, _, j, o, ho, _, _, _ => by simp at ho
  | x :: l, j0, h, j, o, ho, e, he, hb => by
    simp only [edgesL, Bool.and_eq_true] at h
    cases j with
    | zero =>
      simp at ho
      subst ho
      have := List.all_eq_true.1 h.1 e he
      simpa [hb] using this
    | succ j =>
      have := edge_lt h.2 j o (by simpa using ho) e he hb
      omega

/-- The bits of i's number are those of operations that i waits for. -/
theorem anc_bit {ops : Array Oper} (hed : edgesL ops.toList 0 = true) {i k : Nat} {o : Oper} (ho : ops[i]? = some o) (h : ((ancGo ops.toList []).getD i 0).testBit k = true) :
    ∃ e ∈ o.after, binds .any e = true ∧ (k = e.on ∨ ((ancGo ops.toList []).getD e.on 0).testBit k = true) := by
  obtain ⟨more, h1, h2, h3⟩ := ancGo_spec ops.toList []
  simp only [List.nil_append] at h1 h3
  rw [h1] at h ⊢
  have hm := h3 i o (by simpa using ho)
  rw [List.getD_eq_getElem?_getD, hm, Option.getD_some] at h
  rcases maskF_bit _ k _ _ h with h | ⟨e, he, hb, hk⟩
  · simp at h
  · refine ⟨e, by simpa using he, hb, ?_⟩
    rcases hk with hk | hk
    · exact .inl hk
    · right
      have hlt : e.on < i := by
        have := edge_lt hed i o (by simpa using ho) e he hb
        omega
      have e1 : (List.take (List.length ([] : List Nat) + i) more).getD e.on 0 = more.getD e.on 0 := by
        simp only [List.length_nil, Nat.zero_add, List.getD_eq_getElem?_getD, List.getElem?_take, hlt, if_true]
      rw [e1] at hk
      exact hk

/-- How two entries of a script stand to each other. -/
def Stand (ops : Array Oper) (x y : Nat × List Ev) : Prop := x.1 < y.1 ∧ (((ancGo ops.toList []).getD y.1 0).testBit x.1 = true ∨ Free ops x y)

theorem chkT_ok {y : Pre} {m : Nat} : ∀ {l : List Pre} {i j : Nat}, chkT y m l i j = true → ∀ k, i ≤ k → k < j → ∀ x, l[k - i]? = some x → m.testBit k = true ∨ apartP x y = true
  | [], _, _, _, k, _, _, x, hx => by simp at hx
  | z :: l, i, j, h, k, h1, h2, x, hx => by
    simp only [chkT, Bool.or_eq_true, Bool.and_eq_true] at h
    rcases h with h | ⟨h3, h4⟩
    · have := Nat.eq_of_beq_eq_true h
      omega
    · by_cases e : k = i
      · subst e
        rw [Nat.sub_self] at hx
        simp at hx
        subst hx
        exact h3
      · exact chkT_ok h4 k (by omega) h2 x (by
          rw [show k - i = (k - (i + 1)) + 1 by omega] at hx
          simpa using hx)

theorem tmpsL_ok {all : List Pre} : ∀ {l : List Pre} {j : Nat} {ms : List Nat}, tmpsL all l j ms = true → ∀ (k : Nat) (y : Pre), l[k]? = some y → ∀ i, i < j + k → ∀ x, all[i]? = some x → (ms.getD k 0).testBit i = true ∨ apartP x y = true
  | [], _, _, _, k, y, hy, _, _, _, _ => by simp at hy
  | _ :: _, _, [], h, _, _, _, _, _, _, _ => by cases h
  | z :: l, j, m :: ms, h, k, y, hy, i, hi, x, hx => by
    simp only [tmpsL, Bool.and_eq_true] at h
    cases k with
    | zero =>
      simp at hy
      subst hy
      simpa using chkT_ok h.1 i (Nat.zero_le _) (by omega) x (by simpa using hx)
    | succ k =>
      have := tmpsL_ok h.2 k y (by simpa using hy) i (by omega) x hx
      simpa using this

theorem compat_nil_right (es : List Ev) : compatL es [] = true := by simp [compatL]

theorem evs_ok {anc : List Nat} : ∀ {ev : List (Nat × List Ev)}, evsApart anc ev = true → ev.Pairwise fun x y => (anc.getD y.1 0).testBit x.1 = true ∨ compatL x.2 y.2 = true
  | [], _ => .nil
  | (i, []) :: rest, h => by
    refine .cons (fun y _ => .inr rfl) (evs_ok h)
  | (i, e :: es) :: rest, h => by
    simp only [evsApart, Bool.and_eq_true] at h
    refine .cons (fun y hy => ?_) (evs_ok h.2)
    have := List.all_eq_true.1 h.1 y hy
    obtain ⟨j, fs⟩ := y
    simp only [Bool.or_eq_true] at this
    rcases this with (this | this) | this
    · right
      have : fs = [] := by simpa using this
      subst this
      exact compat_nil_right _
    · exact .inl this
    · exact .inr this

theorem stand_of {ops : Array Oper} {ev : List (Nat × List Ev)} (hst : staticOk ops (ancGo ops.toList []) = true) (hev : evsApart (ancGo ops.toList []) ev = true) (hn : ev.map (·.1) = List.range ops.size) : ev.Pairwise (Stand ops) := by
  simp only [staticOk, Bool.and_eq_true] at hst
  have h1 := evs_ok hev
  have h2 : ev.Pairwise fun x y => x.1 < y.1 := by
    have : (ev.map (·.1)).Pairwise (· < ·) := by rw [hn]; exact List.pairwise_lt_range
    exact List.pairwise_map.1 this
  refine (h1.and h2).imp_of_mem ?_
  intro x y hx hy ⟨a, b⟩
  refine ⟨b, ?_⟩
  have hyn : y.1 < ops.size := by
    have : y.1 ∈ ev.map (·.1) := List.mem_map.2 ⟨y, hy, rfl⟩
    rw [hn] at this
    simpa using this
  have hxn : x.1 < ops.size := by omega
  have hyo : ops[y.1]? = some ops[y.1] := Array.getElem?_eq_getElem hyn
  have hxo : ops[x.1]? = some ops[x.1] := Array.getElem?_eq_getElem hxn
  rcases tmpsL_ok hst.2 y.1 (preOf ops ops[y.1]) (by simp [hyo]) x.1 (by omega) (preOf ops ops[x.1]) (by simp [hxo]) with c | hap
  · exact .inl c
  · rcases a with a | a
    · exact .inl a
    · exact .inr ⟨fun o o' ho ho' => by rw [hxo] at ho; rw [hyo] at ho'; cases ho; cases ho'; exact hap, a⟩

theorem drawn_any {P : Program} {N : Nat} {w0 : World} {G : Nat} {ops : Array Oper} {Q : Exit → Act → World → Prop} (hsel : noSel ops = true) (hed : edgesL ops.toList 0 = true) {a2 : AV} {H2 : Hp} :
    ∀ (fuel : Nat) (listed : Array Bool) (ev : List (Nat × List Ev)) (a : AV) (H : Hp) (γ : Gm) (ra : Act) (w : World), ev.length = fuel → Script P (CallOk P N w0 G) ops a H ev a2 H2 → ev.Pairwise (Stand ops) →
      listed.size = ops.size → (∀ i, i < ops.size → (listed.getD i true = false ↔ i ∈ ev.map (·.1))) → (∀ i, i < ops.size → listed.getD i false = true → ∀ k, ((ancGo ops.toList []).getD i 0).testBit k = true → listed.getD k false = true) →
      (∀ i ∈ ev.map (·.1), i < ops.size) → ARel G γ a ra → Rel P N w0 γ H w → (∀ γ' ra' w', Ext γ γ' → ARel G γ' a2 ra' → Rel P N w0 γ' H2 w' → Q .normal ra' w') → wpAny P .any ops Q fuel listed ra w := by
  intro fuel
  induction fuel with
  | zero =>
    intro listed ev a H γ ra w hl hs hpw hsz hmem hcl hin hA hR hQ
    have : ev = [] := List.eq_nil_of_length_eq_zero hl
    subst this
    cases hs
    refine ⟨?_, hQ γ ra w (Ext.refl γ) hA hR⟩
    apply List.eq_nil_iff_forall_not_mem.2
    intro j hj
    obtain ⟨h0, o, ho, _⟩ := mem_ready.1 hj
    have hlt : j < ops.size := (Array.getElem?_eq_some_iff.1 ho).1
    have := (hmem j hlt).1 h0
    simp at this
  | succ fuel ih =>
    intro listed ev a H γ ra w hl hs hpw hsz hmem hcl hin hA hR hQ
    -- the bits of an operation whose edges are listed are listed
    have hbits : ∀ i o, ops[i]? = some o → (∀ e ∈ o.after, binds .any e = true → listed.getD e.on false = true) → ∀ k, ((ancGo ops.toList []).getD i 0).testBit k = true → listed.getD k false = true := by
      intro i o ho hall k hk
      obtain ⟨e, he, hb, h | h⟩ := anc_bit hed ho hk
      · rw [h]; exact hall e he hb
      · have hl1 := hall e he hb
        have hlt : e.on < ops.size := by
          rw [← hsz]
          rcases Nat.lt_or_ge e.on listed.size with q | q
          · exact q
          · simp [Array.getElem?_eq_none q] at hl1
        exact hcl _ hlt hl1 k h
    have hft : ∀ i, i < ops.size → (listed.getD i true = false ↔ listed.getD i false = false) := by
      intro i hi
      have : i < listed.size := by omega
      simp [Array.getD, this]
    constructor
    · -- the first one that is left is ready
      intro hnil
      exfalso
      cases ev with
      | nil => simp at hl
      | cons y rest =>
        have hy : y.1 < ops.size := hin y.1 (by simp)
        have ho : ops[y.1]? = some ops[y.1] := Array.getElem?_eq_getElem hy
        have hready : y.1 ∈ Region.ready .any ops listed := by
          rw [mem_ready]
          refine ⟨(hmem y.1 hy).2 (by simp), _, ho, fun e he hb => ?_⟩
          have hlt : e.on < y.1 := by
            have := edge_lt hed y.1 _ (by rw [Array.getElem?_toList]; exact ho) e (by simpa using he) hb
            omega
          have hlt' : e.on < ops.size := by omega
          cases hq : listed.getD e.on false with
          | true => rfl
          | false =>
            have hm := (hmem e.on hlt').1 ((hft e.on hlt').2 hq)
            simp only [List.map_cons, List.mem_cons] at hm
            rcases hm with hm | hm
            · omega
            · obtain ⟨z, hz, hz1⟩ := List.mem_map.1 hm
              have := (List.rel_of_pairwise_cons hpw hz).1
              omega
        rw [hnil] at hready
        cases hready
    · intro i hi
      obtain ⟨h0, o, ho, hall⟩ := mem_ready.1 hi
      have hlt : i < ops.size := (Array.getElem?_eq_some_iff.1 ho).1
      obtain ⟨y, hy, rfl⟩ := List.mem_map.1 ((hmem i hlt).1 h0)
      obtain ⟨l1, l2, rfl⟩ := List.append_of_mem hy
      have hfree : ∀ x ∈ l1, Free ops x y := by
        intro x hx
        have hst : Stand ops x y := (List.pairwise_append.1 hpw).2.2 x hx y (by simp)
        rcases hst.2 with hb | hf
        · exfalso
          have := hbits y.1 o ho hall x.1 hb
          have hxn : x.1 < ops.size := hin x.1 (by simp; exact .inl ⟨x.2, hx⟩)
          have hm := (hft x.1 hxn).1 ((hmem x.1 hxn).2 (by simp; exact .inl ⟨x.2, hx⟩))
          rw [this] at hm
          cases hm
        · exact hf
      have hs' := script_front hsel hs hfree
      have hpw' : (l1 ++ l2).Pairwise (Stand ops) := hpw.sublist (List.Sublist.append (List.Sublist.refl l1) (List.sublist_cons_self y l2))
      have hnd : y.1 ∉ (l1 ++ l2).map (·.1) := by
        intro q
        obtain ⟨z, hz, hz1⟩ := List.mem_map.1 q
        rcases List.mem_append.1 hz with hz | hz
        · have := ((List.pairwise_append.1 hpw).2.2 z hz y (by simp)).1; omega
        · have := (List.rel_of_pairwise_cons (List.pairwise_append.1 hpw).2.1 hz).1; omega
      cases hs' with
      | cons _ a1 _ _ H1 _ j v es _ he hE hp hr =>
        refine eff_wp he hE hp hA hR hsel fun γ' ra' w' e hA' hR' => ih _ (l1 ++ l2) a1 H1 γ' ra' w' ?_ hr hpw' ?_ ?_ ?_ ?_ hA' hR' ?_
        · simp at hl ⊢; omega
        · simpa using hsz
        · intro k hk
          by_cases hkj : k = j
          · subst hkj
            have hk' : k < listed.size := by omega
            have e1 : (listed.setIfInBounds k true).getD k true = true := by simp [Array.getD]
            rw [e1]
            constructor
            · intro q; cases q
            · intro q; exact absurd q hnd
          · rw [getD_set_ne true (Ne.symm hkj), hmem k hk]
            simp only [List.map_append, List.map_cons, List.mem_append, List.mem_cons, hkj, false_or]
        · intro k hk hkl b hb
          by_cases hkj : k = j
          · subst hkj
            exact getD_set_true (hbits k o ho hall b hb)
          · rw [getD_set_ne false (Ne.symm hkj)] at hkl
            exact getD_set_true (hcl k hk hkl b hb)
        · intro k hk
          refine hin k ?_
          simp only [List.map_append, List.map_cons, List.mem_append, List.mem_cons] at hk ⊢
          rcases hk with hk | hk
          · exact .inl hk
          · exact .inr (.inr hk)
        · exact fun γ'' ra'' w'' e' => hQ γ'' ra'' w'' (e.trans e')

end Go.Proofs.YtdjoolpdabffjaaGreatDoor.Vr
