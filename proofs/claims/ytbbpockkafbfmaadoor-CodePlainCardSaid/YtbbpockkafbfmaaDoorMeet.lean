/-
  The walk of meet: a face takes the places and fingers of a gap.
-/
import Derived.Test.YtbbpockkafbfmaaDoorRev
import Derived.Laws.AppendOwnNone
namespace Go.Proofs.YtbbpockkafbfmaaDoor
open Go.RowKit

/-- 'append(v, src...)' where src is what a call owns, nil or not. -/
theorem wpList_append_src {P : Program} (w : World) {ops : Array Oper} {rest : List Oper} {o : Oper} {a : Act} {Q : Exit → Act → World → Prop} (hgd : o.guard = none) (s x : Operand) (t : TypeId)
    (ho : o.op = .call { callee := .builtin .append, args := #[s, x], argTypes := #[t, t] })
    (base : Nat) (e : TypeId) (i : TypeInfo) (z : Value) (size bytes : Nat) (ht : P.underlying t = some (.slice e)) (hi : P.info? e = some i) (hz : i.zero = some z)
    (hsize : i.size = size) (hby : i.bytes = bytes) (hzs : z.cells.size = size) (hsz : 0 < size)
    (v : Value) (n : Nat) (xs : List Value) (hs : a.eval s = v) (hown : w.ownsRow base e size v n xs)
    (src : Value) (B2 m : Nat) (news : List Value) (hx : a.eval x = src) (hsrc : w.ownsRow B2 e size src m news) (h1 : ∀ u ∈ news, u.oneCell' = true)
    (h63 : n + m ≤ maxLen) (hbytes : (n + m) * bytes ≤ 140737488355328) (hbase : base ≤ w.heap.size)
    (h : ∀ v' w', w'.ownsRow base e size v' (n + m) (xs ++ news) → w.grownBy w' v.ownBlock → (v'.ownBlock = v.ownBlock ∨ v'.ownBlock = some w.heap.size) → wpList P ops Q rest (a.put o.dst v') w') :
    wpList P ops Q (o :: rest) a w := by
  have hl := hsrc.1
  rcases hsrc.2 with ⟨hv, h0⟩ | ⟨g, cap, cur, hv, hg, hh, hr⟩
  · subst h0
    have hn : news = [] := List.eq_nil_of_length_eq_zero (by simpa using hl)
    subst hn
    refine wpList_append_own_none hgd s x t ho base e i size ht hi v n xs hs hown (hx.trans hv) ?_
    exact h v w (by simpa using hown) (World.grownBy.refl _ _) (.inl rfl)
  · refine wpList_append_own_at w hgd s x t ho base e i z size bytes ht hi hz hsize hby hzs hsz v n xs hs hown ⟨g, 0, none⟩ m cap news (hx.trans hv) hl ?_ h1 h63 hbytes hbase (fun v' w' h1 h2 _ h3 => h v' w' h1 h2 h3)
    intro j u hju
    exact hsrc.cells (g := g) (by rw [hv]; rfl) j u hju

/-- A face in a block of its own. -/
def FaceB (w : World) (F : Nat) (ab : Bool) (dv pv fv : Value) (o : Bool) : Prop := w.heap[F]? = some (.cells #[.bool ab, dv, pv, fv, .bool o] 45 (0, 0))
theorem FaceB.cell {w : World} {F : Nat} {ab o : Bool} {dv pv fv : Value} (h : FaceB w F ab dv pv fv o) : F < w.heap.size ∧ w.cell? ⟨F, 0, none⟩ = some (.bool ab) ∧ w.cell? ⟨F, 1, none⟩ = some dv ∧ w.cell? ⟨F, 2, none⟩ = some pv ∧ w.cell? ⟨F, 3, none⟩ = some fv ∧ w.cell? ⟨F, 4, none⟩ = some (.bool o) ∧ (∀ k, w.frozen? ⟨F, k, none⟩ = false) := by
  refine ⟨?_, Lib.cell_of_heap h 0, Lib.cell_of_heap h 1, Lib.cell_of_heap h 2, Lib.cell_of_heap h 3, Lib.cell_of_heap h 4, fun k => ?_⟩
  · rcases Nat.lt_or_ge F w.heap.size with q | q
    · exact q
    · unfold FaceB at h; rw [Array.getElem?_eq_none q] at h; cases h
  · unfold FaceB at h
    simp [World.frozen?, h]
theorem FaceB.setP {w : World} {F : Nat} {ab o : Bool} {dv pv fv : Value} (h : FaceB w F ab dv pv fv o) (v : Value) : FaceB (w.setCell ⟨F, 2, none⟩ v) F ab dv v fv o := by
  unfold FaceB at h ⊢
  simp [World.setCell, Array.getElem?_modify, h]
theorem FaceB.setF {w : World} {F : Nat} {ab o : Bool} {dv pv fv : Value} (h : FaceB w F ab dv pv fv o) (v : Value) : FaceB (w.setCell ⟨F, 3, none⟩ v) F ab dv pv v o := by
  unfold FaceB at h ⊢
  simp [World.setCell, Array.getElem?_modify, h]
theorem FaceB.setO {w : World} {F : Nat} {ab o : Bool} {dv pv fv : Value} (h : FaceB w F ab dv pv fv o) (v : Bool) : FaceB (w.setCell ⟨F, 4, none⟩ (.bool v)) F ab dv pv fv v := by
  unfold FaceB at h ⊢
  simp [World.setCell, Array.getElem?_modify, h]
def Apart (a b : Value) : Prop := ∀ g, a.ownBlock = some g → b.ownBlock ≠ some g
/-- A face in the making. -/
def FMem (B : Nat) (w0 : World) (F : Nat) (ab o : Bool) (dv pv fv : Value) (ds : List Int) (ps : List (Int × Int)) (fs : List Int) (wr : World) : Prop :=
  FaceB wr F ab dv pv fv o ∧ OwnZ wr B dv ds ∧ OwnP wr B pv ps ∧ OwnZ wr B fv fs ∧ dv.ownBlock ≠ some F ∧ pv.ownBlock ≠ some F ∧ fv.ownBlock ≠ some F ∧ Apart dv pv ∧ Apart dv fv ∧ Apart pv fv ∧ B ≤ F ∧ Below B w0 wr

theorem FMem.below {B : Nat} {w0 w w' : World} {F : Nat} {ab o : Bool} {dv pv fv : Value} {ds fs : List Int} {ps : List (Int × Int)} (h : FMem B w0 F ab o dv pv fv ds ps fs w) (hb : Below w.heap.size w w') : FMem B w0 F ab o dv pv fv ds ps fs w' := by
  obtain ⟨h1, h2, h3, h4, h5, h6, h7, h8, h9, h10, h11, h12⟩ := h
  have hF := h1.cell.1
  refine ⟨?_, h2.below hb, h3.below hb, h4.below hb, h5, h6, h7, h8, h9, h10, h11, h12.trans (hb.mono (by omega))⟩
  exact (hb.block F hF).trans h1

theorem own_kept2 {w w' : World} {B : Nat} {T : TypeId} {sz n : Nat} {v : Value} {xs : List Value} (h : w.ownsRow B T sz v n xs) (hk : ∀ g, v.ownBlock = some g → w'.heap[g]? = w.heap[g]?) : w'.ownsRow B T sz v n xs := by
  refine ⟨h.1, ?_⟩
  rcases h.2 with hn | ⟨g, cap, cur, hv, hg, hh, r⟩
  · exact .inl hn
  · exact .inr ⟨g, cap, cur, hv, hg, (hk g (by rw [hv]; rfl)).trans hh, r⟩
theorem FMem.addP {B : Nat} {w0 w1 w2 : World} {F : Nat} {ab o : Bool} {dv pv fv v1 : Value} {ds fs : List Int} {ps pl : List (Int × Int)} (h : FMem B w0 F ab o dv pv fv ds ps fs w1)
    (ho : w2.ownsRow B 69 2 v1 (ps.length + pl.length) (placeVs ps ++ placeVs pl)) (hg : w1.grownBy w2 pv.ownBlock) (hl : v1.ownBlock = pv.ownBlock ∨ v1.ownBlock = some w1.heap.size) :
    FaceB w2 F ab dv pv fv o ∧ FMem B w0 F ab o dv v1 fv ds (ps ++ pl) fs (w2.setCell ⟨F, 2, none⟩ v1) ∧ (∀ k, k < w1.heap.size → k ≠ F → pv.ownBlock ≠ some k → (w2.setCell ⟨F, 2, none⟩ v1).heap[k]? = w1.heap[k]?) ∧ (∀ k, k < w1.heap.size → v1.ownBlock = some k → pv.ownBlock = some k) := by
  obtain ⟨h1, h2, h3, h4, h5, h6, h7, h8, h9, h10, h11, h12⟩ := h
  have hF := h1.cell.1
  have k2 : ∀ k, k < w1.heap.size → pv.ownBlock ≠ some k → w2.heap[k]? = w1.heap[k]? := fun k h0 h1 => hg.block k h0 (fun e => h1 e.symm)
  have k3 : ∀ k, k < w1.heap.size → k ≠ F → pv.ownBlock ≠ some k → (w2.setCell ⟨F, 2, none⟩ v1).heap[k]? = w1.heap[k]? := fun k h0 h1 h2 => (Below.heap_setCell _ _ _ k h1).trans (k2 k h0 h2)
  have hfb : FaceB w2 F ab dv pv fv o := (k2 F hF h6).trans h1
  have hv1F : v1.ownBlock ≠ some F := by
    rcases hl with e | e
    · rw [e]; exact h6
    · rw [e]; intro c; injection c with c; omega
  have hone : ∀ (v : Value) (g : Nat), v.ownBlock = some g → g < w1.heap.size → pv.ownBlock ≠ some g → v1.ownBlock ≠ some g := fun v g _ hlt hne => by
    rcases hl with e | e
    · rw [e]; exact hne
    · rw [e]; intro c; injection c with c; omega
  have hld := fun g (e : dv.ownBlock = some g) => (World.ownsRow.lt h2 g e).2
  have hlf := fun g (e : fv.ownBlock = some g) => (World.ownsRow.lt h4 g e).2
  have hBs : B ≤ w1.heap.size := by omega
  refine ⟨hfb, ⟨hfb.setP v1, own_kept2 h2 (fun g e => k3 g (hld g e) (by intro c; subst c; exact h5 e) (h8 g e)), ?_, own_kept2 h4 (fun g e => k3 g (hlf g e) (by intro c; subst c; exact h7 e) (fun c => h10 g c e)), h5, hv1F, h7, ?_, h9, ?_, h11, ?_⟩, k3, fun k h0 e => by
    rcases hl with c | c
    · rw [← c]; exact e
    · rw [c] at e; injection e with e; omega⟩
  · unfold OwnP
    rw [List.length_append, show placeVs (ps ++ pl) = placeVs ps ++ placeVs pl from by simp [placeVs]]
    exact own_kept2 ho (fun g e => Below.heap_setCell _ _ _ g (by intro c; have c' : g = F := c; subst c'; exact hv1F e))
  · intro g e
    exact hone dv g e (hld g e) (h8 g e)
  · intro g e c
    exact hone fv g c (hlf g c) (fun c2 => h10 g c2 c) e
  · exact ((h12.grown hg hBs (fun j hj => (World.ownsRow.lt h3 j hj).1))).setCell (p := ⟨F, 2, none⟩) h11 _
theorem FMem.addZ {B : Nat} {w0 w1 w2 : World} {F : Nat} {ab o : Bool} {dv pv fv v1 : Value} {ds fs fl : List Int} {ps : List (Int × Int)} (h : FMem B w0 F ab o dv pv fv ds ps fs w1)
    (ho : w2.ownsRow B 3 1 v1 (fs.length + fl.length) (fs.map (Value.int .i64) ++ fl.map (Value.int .i64))) (hg : w1.grownBy w2 fv.ownBlock) (hl : v1.ownBlock = fv.ownBlock ∨ v1.ownBlock = some w1.heap.size) :
    FaceB w2 F ab dv pv fv o ∧ FMem B w0 F ab o dv pv v1 ds ps (fs ++ fl) (w2.setCell ⟨F, 3, none⟩ v1) ∧ (∀ k, k < w1.heap.size → k ≠ F → fv.ownBlock ≠ some k → (w2.setCell ⟨F, 3, none⟩ v1).heap[k]? = w1.heap[k]?) ∧ (∀ k, k < w1.heap.size → v1.ownBlock = some k → fv.ownBlock = some k) := by
  obtain ⟨h1, h2, h3, h4, h5, h6, h7, h8, h9, h10, h11, h12⟩ := h
  have hF := h1.cell.1
  have k2 : ∀ k, k < w1.heap.size → fv.ownBlock ≠ some k → w2.heap[k]? = w1.heap[k]? := fun k h0 h1 => hg.block k h0 (fun e => h1 e.symm)
  have k3 : ∀ k, k < w1.heap.size → k ≠ F → fv.ownBlock ≠ some k → (w2.setCell ⟨F, 3, none⟩ v1).heap[k]? = w1.heap[k]? := fun k h0 h1 h2 => (Below.heap_setCell _ _ _ k h1).trans (k2 k h0 h2)
  have hfb : FaceB w2 F ab dv pv fv o := (k2 F hF h7).trans h1
  have hv1F : v1.ownBlock ≠ some F := by
    rcases hl with e | e
    · rw [e]; exact h7
    · rw [e]; intro c; injection c with c; omega
  have hone : ∀ (g : Nat), g < w1.heap.size → fv.ownBlock ≠ some g → v1.ownBlock ≠ some g := fun g hlt hne => by
    rcases hl with e | e
    · rw [e]; exact hne
    · rw [e]; intro c; injection c with c; omega
  have hld := fun g (e : dv.ownBlock = some g) => (World.ownsRow.lt h2 g e).2
  have hlp := fun g (e : pv.ownBlock = some g) => (World.ownsRow.lt h3 g e).2
  have hBs : B ≤ w1.heap.size := by omega
  refine ⟨hfb, ⟨hfb.setF v1, own_kept2 h2 (fun g e => k3 g (hld g e) (by intro c; subst c; exact h5 e) (h9 g e)), own_kept2 h3 (fun g e => k3 g (hlp g e) (by intro c; subst c; exact h6 e) (h10 g e)), ?_, h5, h6, hv1F, h8, ?_, ?_, h11, ?_⟩, k3, fun k h0 e => by
    rcases hl with c | c
    · rw [← c]; exact e
    · rw [c] at e; injection e with e; omega⟩
  · unfold OwnZ
    rw [List.length_append, List.map_append]
    exact own_kept2 ho (fun g e => Below.heap_setCell _ _ _ g (by intro c; have c' : g = F := c; subst c'; exact hv1F e))
  · intro g e
    exact hone g (hld g e) (h9 g e)
  · intro g e
    exact hone g (hlp g e) (h10 g e)
  · exact ((h12.grown hg hBs (fun j hj => (World.ownsRow.lt h4 j hj).1))).setCell (p := ⟨F, 3, none⟩) h11 _
theorem own_form {w : World} {B : Nat} {T : TypeId} {sz n : Nat} {v : Value} {xs : List Value} (h : w.ownsRow B T sz v n xs) : ∃ A c, v = .slice A n c := by
  rcases h.2 with ⟨hv, h0⟩ | ⟨g, cap, cur, hv, _⟩
  · exact ⟨none, 0, by rw [hv, h0]⟩
  · exact ⟨_, _, hv⟩
set_option maxHeartbeats 1000000 in
theorem reverseP_nil (w : World) : Calls Tryd.prog 110 #[.slice none 0 0] w fun e w' => e = .returned (.tuple #[]) ∧ w' = w := by
  go_enter Tryd.func110, Tryd.ntmps110
  go_wp2_with fail
  refine wp_loop_rounds 1 ?_
  rw [rounds_succ]
  go_wp2
  go_end0
  exact ⟨rfl, rfl⟩
set_option maxHeartbeats 1000000 in
theorem reverseZ_nil (w : World) : Calls Tryd.prog 111 #[.slice none 0 0] w fun e w' => e = .returned (.tuple #[]) ∧ w' = w := by
  go_enter Tryd.func111, Tryd.ntmps111
  go_wp2_with fail
  refine wp_loop_rounds 1 ?_
  rw [rounds_succ]
  go_wp2
  go_end0
  exact ⟨rfl, rfl⟩
theorem reverseP_any (w : World) (B : Nat) (v : Value) (xs : List (Int × Int)) (h : OwnP w B v xs) (hn : xs.length ≤ 100000) :
    Calls Tryd.prog 110 #[v] w fun e w' => e = .returned (.tuple #[]) ∧ OwnP w' B v xs.reverse ∧ (∀ k, k < w.heap.size → v.ownBlock ≠ some k → w'.heap[k]? = w.heap[k]?) ∧ Below B w w' := by
  rcases h.2 with ⟨hv, h0⟩ | ⟨g, cap, cur, hv, hg, hh, hr⟩
  · have hx : xs = [] := List.eq_nil_of_length_eq_zero h0
    subst hx
    subst hv
    refine (reverseP_nil w).mono ?_
    rintro e w' ⟨rfl, rfl⟩
    exact ⟨rfl, h, fun _ _ _ => rfl, Below.refl _ _⟩
  · subst hv
    refine (reverseP_calls w B g xs.length cap xs rfl h hn).mono ?_
    rintro e w' ⟨rfl, ho, hk⟩
    exact ⟨rfl, (by simpa using ho), fun k h0 h1 => hk.2 k h0 (fun e => h1 (by rw [e]; rfl)), hk.1.mono hg⟩
theorem reverseZ_any (w : World) (B : Nat) (v : Value) (xs : List Int) (h : OwnZ w B v xs) (hn : xs.length ≤ 100000) :
    Calls Tryd.prog 111 #[v] w fun e w' => e = .returned (.tuple #[]) ∧ OwnZ w' B v xs.reverse ∧ (∀ k, k < w.heap.size → v.ownBlock ≠ some k → w'.heap[k]? = w.heap[k]?) ∧ Below B w w' := by
  rcases h.2 with ⟨hv, h0⟩ | ⟨g, cap, cur, hv, hg, hh, hr⟩
  · have hx : xs = [] := List.eq_nil_of_length_eq_zero h0
    subst hx
    subst hv
    refine (reverseZ_nil w).mono ?_
    rintro e w' ⟨rfl, rfl⟩
    exact ⟨rfl, h, fun _ _ _ => rfl, Below.refl _ _⟩
  · subst hv
    refine (reverseZ_calls w B g xs.length cap xs rfl h hn).mono ?_
    rintro e w' ⟨rfl, ho, hk⟩
    exact ⟨rfl, (by simpa using ho), fun k h0 h1 => hk.2 k h0 (fun e => h1 (by rw [e]; rfl)), hk.1.mono hg⟩
theorem own_apart {w : World} {B1 B2 : Nat} {T1 T2 : TypeId} {s1 s2 n1 n2 : Nat} {v1 v2 : Value} {xs1 xs2 : List Value} (h1 : w.ownsRow B1 T1 s1 v1 n1 xs1) (h2 : w.ownsRow B2 T2 s2 v2 n2 xs2) (hT : T1 ≠ T2) : ∀ g, v1.ownBlock = some g → v2.ownBlock ≠ some g := by
  intro g e1 e2
  rcases h1.2 with ⟨hv, _⟩ | ⟨g1, _, _, hv, _, hh1, _⟩
  · rw [hv] at e1; simp [Value.ownBlock] at e1
  · rcases h2.2 with ⟨hv2, _⟩ | ⟨g2, _, _, hv2, _, hh2, _⟩
    · rw [hv2] at e2; simp [Value.ownBlock] at e2
    · have q1 : g1 = g := by rw [hv] at e1; simpa [Value.ownBlock] using e1
      have q2 : g2 = g := by rw [hv2] at e2; simpa [Value.ownBlock] using e2
      rw [q1] at hh1
      rw [q2, hh1] at hh2
      injection hh2 with hh2
      injection hh2 with _ hh2
      exact hT hh2
/-- What stays where one row has turned. -/
theorem FMem.turned {B : Nat} {w0 w w' : World} {F b : Nat} {ab o : Bool} {dv pv fv : Value} {ds fs : List Int} {ps : List (Int × Int)} (h : FMem B w0 F ab o dv pv fv ds ps fs w) (hk : ∀ k, k < b → w'.heap[k]? = w.heap[k]?) (hb : Below b w w')
    (hF : F < b) (hd : ∀ g, dv.ownBlock = some g → g < b) (hp : ∀ g, pv.ownBlock = some g → g < b) (hf : ∀ g, fv.ownBlock = some g → g < b) : FMem B w0 F ab o dv pv fv ds ps fs w' := by
  obtain ⟨h1, h2, h3, h4, h5, h6, h7, h8, h9, h10, h11, h12⟩ := h
  exact ⟨(hk F hF).trans h1, own_kept2 h2 (fun g e => hk g (hd g e)), own_kept2 h3 (fun g e => hk g (hp g e)), own_kept2 h4 (fun g e => hk g (hf g e)), h5, h6, h7, h8, h9, h10, h11, h12.trans (hb.mono (by omega))⟩

theorem placeVs_one (ps : List (Int × Int)) : ∀ u, u ∈ placeVs ps → u.oneCell' = true := by
  intro u hu
  unfold placeVs at hu
  obtain ⟨p, _, hp⟩ := List.mem_flatMap.1 hu
  simp only [List.mem_cons, List.not_mem_nil, or_false] at hp
  rcases hp with rfl | rfl <;> rfl
theorem ints_one (xs : List Int) : ∀ u, u ∈ xs.map (Value.int .i64) → u.oneCell' = true := by
  intro u hu
  obtain ⟨x, _, rfl⟩ := List.mem_map.1 hu
  rfl

theorem gapTo_le {f : Int} {ls : List Lt} {ax : List Nat} {m s : Nat} (hf : f ≤ 40) (hg : ∀ l, l ∈ ls → 0 ≤ l.gate ∧ l.gate ≤ f) : gapTo f ls ax m s ≤ 40 := by
  unfold gapTo
  split
  · split
    · rename_i l hl
      have := hg l (List.mem_of_getElem? hl)
      omega
    · omega
  · exact hf
theorem gapFrom_ge {f : Int} {ls : List Lt} {ax : List Nat} {s : Nat} (hg : ∀ l, l ∈ ls → 0 ≤ l.gate ∧ l.gate ≤ f) : 0 ≤ (gapFrom ls ax s).1 := by
  unfold gapFrom
  split
  · exact Int.le_refl _
  · split
    · rename_i l hl
      exact (hg l (List.mem_of_getElem? hl)).1
    · exact Int.le_refl _

def meetP (ab : Bool) (ps : List (Int × Int)) : List (Int × Int) := if ab then ps else ps.reverse
def meetZ (ab : Bool) (fs : List Int) : List Int := if ab then fs else fs.reverse

/-- What meet leaves alone. -/
def KeepM (F : Nat) (pv fv pv' fv' : Value) (w w' : World) : Prop :=
  (∀ k, k < w.heap.size → k ≠ F → pv.ownBlock ≠ some k → fv.ownBlock ≠ some k → w'.heap[k]? = w.heap[k]?) ∧ (∀ k, k < w.heap.size → pv'.ownBlock = some k → pv.ownBlock = some k) ∧ (∀ k, k < w.heap.size → fv'.ownBlock = some k → fv.ownBlock = some k) ∧ w.heap.size ≤ w'.heap.size

set_option maxHeartbeats 4000000 in
set_option maxRecDepth 100000 in
theorem meet_calls {D : DM} (k : D.ok) {w w0 : World} {P F B : Nat} {f : Int} {A Aa Ax As Ao : Option Addr} {c ca cx cs co : Nat} (h : DMem D w P f A Aa Ax As Ao c ca cx cs co) (s : Nat) (hs : s ≤ D.m) (hf : f ≤ 40) (hg : ∀ l, l ∈ D.ls → 0 ≤ l.gate ∧ l.gate ≤ f)
    {ab o : Bool} {dv pv fv : Value} {ds fs : List Int} {ps : List (Int × Int)} (hm : FMem B w0 F ab o dv pv fv ds ps fs w) (hps : ps.length ≤ 1000000) (hfs : fs.length ≤ 1000000) :
    Calls Tryd.prog 86 #[.pointer (some ⟨P, 0, none⟩), .pointer (some ⟨F, 0, none⟩), .int .i64 (s : Int)] w fun e w' => e = .returned (.tuple #[]) ∧
      ∃ pv' fv', FMem B w0 F ab o dv pv' fv' ds (ps ++ meetP ab (gapPlaces f D.ls D.ax D.m s)) (fs ++ meetZ ab (gapFingers f D.ls D.ax D.m s)) w' ∧ KeepM F pv fv pv' fv' w w' := by
  have hgap := gap_calls k h s hs hf hg
  obtain ⟨pl, hpl⟩ : ∃ pl, gapPlaces f D.ls D.ax D.m s = pl := ⟨_, rfl⟩
  obtain ⟨fl, hfl⟩ : ∃ fl, gapFingers f D.ls D.ax D.m s = fl := ⟨_, rfl⟩
  have hplen : pl.length ≤ 1000 := by
    rw [← hpl]
    unfold gapPlaces gapFingers
    rw [List.length_cons, List.length_map, upFrom_len]
    have := gapTo_le (ls := D.ls) (ax := D.ax) (m := D.m) (s := s) hf hg
    have := gapFrom_ge (ls := D.ls) (ax := D.ax) (s := s) hg
    omega
  have hflen : fl.length ≤ 1000 := by
    rw [← hfl]
    unfold gapFingers
    rw [upFrom_len]
    have := gapTo_le (ls := D.ls) (ax := D.ax) (m := D.m) (s := s) hf hg
    have := gapFrom_ge (ls := D.ls) (ax := D.ax) (s := s) hg
    omega
  rw [hpl, hfl] at hgap ⊢
  have HG := Lib.hid hgap
  clear hgap hpl hfl
  have HM := Lib.hid hm
  obtain ⟨hF, n0, n1, n2, n3, n4, n5⟩ := hm.1.cell
  clear h hm k
  go_enter Tryd.func86, Tryd.ntmps86
  go_wp2_with fail
  refine HG.out.mono ?_
  rintro e w1 ⟨vp, vf, rfl, hvp, hvf, hb1⟩
  have HM1 := Lib.hid (HM.out.below hb1)
  have HVP := Lib.hid hvp
  have HVF := Lib.hid hvf
  have HB1 := Lib.hid hb1
  cases ab with
  | true =>
    obtain ⟨hF1, n0, n1, n2, n3, n4, n5⟩ := HM1.out.1.cell
    have hBw : B ≤ w1.heap.size := by have := HM1.out.2.2.2.2.2.2.2.2.2.2.1; omega
    have HSEP : Hid (∀ g, vf.ownBlock = some g → g < w1.heap.size ∧ g ≠ F ∧ pv.ownBlock ≠ some g) := by
      intro g e
      have h1 := World.ownsRow.lt HVF.out g e
      refine ⟨h1.2, by omega, fun c => ?_⟩
      have h2 := World.ownsRow.lt HM.out.2.2.1 g c
      omega
    have n5a := n5 2
    have n5b := n5 3
    obtain ⟨i0, hi, hz0, hz1, hz2⟩ := info_parts infoPlace
    obtain ⟨k0, ki, kz0, kz1, kz2⟩ := info_parts infoInt'
    clear hvp hvf hb1 n5 hg
    go_wp2_with (first
      | (at_builtin; refine wpList_append_src _ rfl _ _ 43 rfl B 69 i0 (.agg #[.int .i64 0, .int .i64 0]) 2 16 Tryd.underlying43 hi hz0 hz1 hz2 rfl (by decide) pv ps.length _ rfl HM1.out.2.2.1 vp _ pl.length _ rfl HVP.out (placeVs_one _) (by unfold maxLen; omega) (by omega) hBw ?_; intro v1 w2 ho1 hg1 hl1; obtain ⟨A1, c1, rfl⟩ := own_form ho1; have H1 := Lib.hid (HM1.out.addP ho1 hg1 hl1); obtain ⟨hF2, m0, m1, m2, m3, m4, m5⟩ := H1.out.1.cell; have m5a := m5 2; have m5b := m5 3; have hs2 : w1.heap.size ≤ w2.heap.size := hg1.size; have HVF2 : Hid ((w2.setCell ⟨F, 2, none⟩ (.slice A1 (ps.length + pl.length) c1)).ownsRow w.heap.size 3 1 vf fl.length (fl.map (Value.int .i64))) := own_kept2 HVF.out (fun g e => H1.out.2.2.1 g (HSEP.out g e).1 (HSEP.out g e).2.1 (HSEP.out g e).2.2); clear ho1 hg1 hl1 m5)
      | (at_builtin; refine wpList_append_src _ rfl _ _ 28 rfl B 3 k0 (.int .i64 0) 1 8 Tryd.underlying28 ki kz0 kz1 kz2 rfl (by decide) fv fs.length _ rfl H1.out.2.1.2.2.2.1 vf _ fl.length _ rfl HVF2.out (ints_one _) (by unfold maxLen; omega) (by omega) (by simp; omega) ?_; intro v3 w4 ho3 hg3 hl3; obtain ⟨A3, c3, rfl⟩ := own_form ho3; have hs4 : w2.heap.size ≤ w4.heap.size := (by have := hg3.size; simpa using this); have H3 := Lib.hid (H1.out.2.1.addZ ho3 hg3 hl3); obtain ⟨hF4, r0, r1, r2, r3, r4, r5⟩ := H3.out.1.cell; have r5b := r5 3; clear ho3 hg3 hl3 r5))
    go_end0
    have hs1 := HB1.out.size
    exact ⟨rfl, _, _, H3.out.2.1, fun k h0 h1 h2 h3 => (H3.out.2.2.1 k (by simp; omega) h1 h3).trans ((H1.out.2.2.1 k (by omega) h1 h2).trans (HB1.out.block k h0)), fun k h0 e => H1.out.2.2.2 k (by omega) e, fun k h0 e => H3.out.2.2.2 k (by simp; omega) e, by simp; omega⟩
  | false =>
    obtain ⟨pr, hpr⟩ : ∃ pr, pl.reverse = pr := ⟨_, rfl⟩
    obtain ⟨fr, hfr⟩ : ∃ fr, fl.reverse = fr := ⟨_, rfl⟩
    have hplr : pr.length ≤ 1000 := by rw [← hpr, List.length_reverse]; exact hplen
    have hflr : fr.length ≤ 1000 := by rw [← hfr, List.length_reverse]; exact hflen
    have HPR := Lib.hid hpr
    have HFR := Lib.hid hfr
    clear hpr hfr
    obtain ⟨hF1, n0, n1, n2, n3, n4, n5⟩ := HM1.out.1.cell
    have hBw : B ≤ w1.heap.size := by have := HM1.out.2.2.2.2.2.2.2.2.2.2.1; omega
    have HSEP : Hid (∀ g, vf.ownBlock = some g → g < w1.heap.size ∧ g ≠ F ∧ pv.ownBlock ≠ some g) := by
      intro g e
      have h1 := World.ownsRow.lt HVF.out g e
      refine ⟨h1.2, by omega, fun c => ?_⟩
      have h2 := World.ownsRow.lt HM.out.2.2.1 g c
      omega
    have n5a := n5 2
    have n5b := n5 3
    obtain ⟨i0, hi, hz0, hz1, hz2⟩ := info_parts infoPlace
    obtain ⟨k0, ki, kz0, kz1, kz2⟩ := info_parts infoInt'
    clear hvp hvf hb1 n5 hg
    have hb1s : w.heap.size ≤ w1.heap.size := HB1.out.size
    have HLP : Hid (∀ g, dv.ownBlock = some g → g < w.heap.size) := fun g e => (World.ownsRow.lt HM.out.2.1 g e).2
    have HLQ : Hid (∀ g, pv.ownBlock = some g → g < w.heap.size) := fun g e => (World.ownsRow.lt HM.out.2.2.1 g e).2
    have HLR : Hid (∀ g, fv.ownBlock = some g → g < w.heap.size) := fun g e => (World.ownsRow.lt HM.out.2.2.2.1 g e).2
    have hFw : F < w.heap.size := HM.out.1.cell.1
    have hBF : B ≤ F := HM.out.2.2.2.2.2.2.2.2.2.2.1
    have HRP : Hid (Calls Tryd.prog 110 #[vp] w1 fun e w' => e = .returned (.tuple #[]) ∧ OwnP w' w.heap.size vp pr ∧ OwnZ w' w.heap.size vf fl ∧ FMem B w0 F false o dv pv fv ds ps fs w' ∧ Below w.heap.size w1 w') := by
      refine (reverseP_any w1 w.heap.size vp pl HVP.out (by omega)).mono ?_
      rintro e w' ⟨rfl, h1, h2, h3⟩
      rw [HPR.out] at h1
      exact ⟨rfl, h1, own_kept2 HVF.out (fun g e => h2 g (World.ownsRow.lt HVF.out g e).2 (fun c => own_apart HVP.out HVF.out (by decide) g c e)), HM1.out.turned h3.block h3 hFw HLP.out HLQ.out HLR.out, h3⟩
    have HRZ : Hid (∀ W, OwnP W w.heap.size vp pr → OwnZ W w.heap.size vf fl → FMem B w0 F false o dv pv fv ds ps fs W → Below w.heap.size w1 W → Calls Tryd.prog 111 #[vf] W fun e w' => e = .returned (.tuple #[]) ∧ OwnP w' w.heap.size vp pr ∧ OwnZ w' w.heap.size vf fr ∧ FMem B w0 F false o dv pv fv ds ps fs w' ∧ Below w.heap.size w1 w') := by
      intro W q1 q2 q3 q4
      refine (reverseZ_any W w.heap.size vf fl q2 (by omega)).mono ?_
      rintro e w' ⟨rfl, h1, h2, h3⟩
      rw [HFR.out] at h1
      exact ⟨rfl, own_kept2 q1 (fun g e => h2 g (World.ownsRow.lt q1 g e).2 (fun c => own_apart q1 q2 (by decide) g e c)), h1, q3.turned h3.block h3 hFw HLP.out HLQ.out HLR.out, q4.trans h3⟩
    clear n5a n5b hBw HSEP
    go_wp2_with (first
      | (go_at_call 110; refine HRP.out.mono ?_; rintro e wa ⟨rfl, q1, q2, q3, q4⟩; have HQ := Lib.hid (HRZ.out _ q1 q2 q3 q4); clear q1 q2 q3 q4)
      | (go_at_call 111; go_loud (refine HQ.out.mono ?_; rintro e wb ⟨rfl, q1, q2, q3, q4⟩; have HBR := Lib.hid q4; have q4s := q4.size; have HVPR := Lib.hid q1; have HVFR := Lib.hid q2; have HMR := Lib.hid q3; obtain ⟨hFr, s0, s1, s2, s3, s4, s5⟩ := q3.1.cell; have s5a := s5 2; have s5b := s5 3; have hBb : B ≤ wb.heap.size := (by omega); have HSEP2 : Hid (∀ g, vf.ownBlock = some g → g < wb.heap.size ∧ g ≠ F ∧ pv.ownBlock ≠ some g) := (fun g e => ⟨(World.ownsRow.lt HVFR.out g e).2, by have := (World.ownsRow.lt HVFR.out g e).1; omega, fun c => by have h1 := HLQ.out g c; have h2 := (World.ownsRow.lt HVFR.out g e).1; omega⟩); clear q1 q2 q3 q4 s5))
      | (at_builtin; refine wpList_append_src _ rfl _ _ 43 rfl B 69 i0 (.agg #[.int .i64 0, .int .i64 0]) 2 16 Tryd.underlying43 hi hz0 hz1 hz2 rfl (by decide) pv ps.length _ rfl HMR.out.2.2.1 vp _ pr.length _ rfl HVPR.out (placeVs_one _) (by unfold maxLen; omega) (by omega) hBb ?_; intro v1 w2 ho1 hg1 hl1; obtain ⟨A1, c1, rfl⟩ := own_form ho1; have H1 := Lib.hid (HMR.out.addP ho1 hg1 hl1); obtain ⟨hF2, m0, m1, m2, m3, m4, m5⟩ := H1.out.1.cell; have m5a := m5 2; have m5b := m5 3; have hs2 : wb.heap.size ≤ w2.heap.size := hg1.size; have HVF2 : Hid ((w2.setCell ⟨F, 2, none⟩ (.slice A1 (ps.length + pr.length) c1)).ownsRow w.heap.size 3 1 vf fr.length (fr.map (Value.int .i64))) := own_kept2 HVFR.out (fun g e => H1.out.2.2.1 g (HSEP2.out g e).1 (HSEP2.out g e).2.1 (HSEP2.out g e).2.2); clear ho1 hg1 hl1 m5)
      | (at_builtin; refine wpList_append_src _ rfl _ _ 28 rfl B 3 k0 (.int .i64 0) 1 8 Tryd.underlying28 ki kz0 kz1 kz2 rfl (by decide) fv fs.length _ rfl H1.out.2.1.2.2.2.1 vf _ fr.length _ rfl HVF2.out (ints_one _) (by unfold maxLen; omega) (by omega) (by simp; omega) ?_; intro v3 w4 ho3 hg3 hl3; obtain ⟨A3, c3, rfl⟩ := own_form ho3; have hs4 : w2.heap.size ≤ w4.heap.size := (by have := hg3.size; simpa using this); have H3 := Lib.hid (H1.out.2.1.addZ ho3 hg3 hl3); obtain ⟨hF4, r0, r1, r2, r3, r4, r5⟩ := H3.out.1.cell; have r5b := r5 3; clear ho3 hg3 hl3 r5))
    go_end0
    have h3 := H3.out.2.1
    have e1 : meetP false pl = pr := HPR.out
    have e2 : meetZ false fl = fr := HFR.out
    rw [e1, e2]
    have hs1 := HB1.out.size
    exact ⟨rfl, _, _, h3, fun k h0 h1 h2 h4 => (H3.out.2.2.1 k (by simp; omega) h1 h4).trans ((H1.out.2.2.1 k (by omega) h1 h2).trans ((HBR.out.block k h0).trans (HB1.out.block k h0))), fun k h0 e => H1.out.2.2.2 k (by omega) e, fun k h0 e => H3.out.2.2.2 k (by simp; omega) e, by simp; omega⟩

end Go.Proofs.YtbbpockkafbfmaaDoor
