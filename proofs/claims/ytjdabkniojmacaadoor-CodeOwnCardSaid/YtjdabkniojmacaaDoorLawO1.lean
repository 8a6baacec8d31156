/-
  The walk of the law CodeOwn.
-/
import Derived.Test.YtjdabkniojmacaaDoorNormP
import Derived.Test.YtjdabkniojmacaaDoorTurnB
import Derived.Test.YtjdabkniojmacaaDoorRefO
import Derived.Test.YtjdabkniojmacaaDoorRefX
import Derived.Test.YtjdabkniojmacaaDoorLawH
import Derived.Test.YtjdabkniojmacaaDoorDoorL
import Derived.Deep.RegionHeld3
namespace Go.Proofs.YtjdabkniojmacaaDoor
open Go.RowKit

/-- A block that has room for n letters. -/
def Room (W : World) (g n : Nat) : Prop := ∃ cur, W.heap[g]? = some (.cells cur 48 (0, 0)) ∧ n * 6 ≤ cur.size
theorem Room.set {W : World} {g n : Nat} (h : Room W g n) (b k : Nat) (x : Value) : Room (W.setCell ⟨b, k, none⟩ x) g n := by
  obtain ⟨cur, h1, h2⟩ := h
  by_cases e : g = b
  · subst e
    exact ⟨_, heap_setCell_same _ _ k _ _ x h1, by simpa using h2⟩
  · exact ⟨cur, (Below.heap_setCell _ _ _ g e).trans h1, h2⟩
theorem Room.below {W W' : World} {g n : Nat} (h : Room W g n) (hb : Below W.heap.size W W') : Room W' g n := by
  obtain ⟨cur, h1, h2⟩ := h
  exact ⟨cur, (hb.block _ (heap_lt h1)).trans h1, h2⟩
theorem Room.cell {W : World} {g n k o : Nat} (h : Room W g n) (hk : k < n) (ho : o < 6) : (∃ x, W.cell? ⟨g, k * 6 + o, none⟩ = some x) ∧ W.frozen? ⟨g, k * 6 + o, none⟩ = false := by
  obtain ⟨cur, h1, h2⟩ := h
  have hlt : k * 6 + o < cur.size := by omega
  refine ⟨⟨cur[k * 6 + o], ?_⟩, by simp [World.frozen?, h1]⟩
  have h3 := Lib.cell_of_heap h1 (k * 6 + o)
  rw [h3]
  exact Array.getElem?_eq_getElem hlt

/-- Own letters, or none. -/
def RoomV (B : Nat) (W : World) (v : Value) : Prop := ∃ A n c, v = .slice A n c ∧ n ≤ 1000 ∧ (n = 0 ∨ ∃ g, A = some ⟨g, 0, none⟩ ∧ n ≤ c ∧ B ≤ g ∧ g < W.heap.size ∧ Room W g n)
theorem RoomV.below {B : Nat} {W W' : World} {v : Value} (h : RoomV B W v) (hb : Below W.heap.size W W') : RoomV B W' v := by
  obtain ⟨A, n, c, rfl, hn, h⟩ := h
  refine ⟨A, n, c, rfl, hn, ?_⟩
  rcases h with h | ⟨g, h1, h2, h3, h4, h5⟩
  · exact .inl h
  · exact .inr ⟨g, h1, h2, h3, Nat.lt_of_lt_of_le h4 hb.size, h5.below hb⟩
theorem RoomV.mono {B B' : Nat} {W : World} {v : Value} (h : RoomV B W v) (hb : B' ≤ B) : RoomV B' W v := by
  obtain ⟨A, n, c, rfl, hn, h⟩ := h
  refine ⟨A, n, c, rfl, hn, ?_⟩
  rcases h with h | ⟨g, h1, h2, h3, h4, h5⟩
  · exact .inl h
  · exact .inr ⟨g, h1, h2, by omega, h4, h5⟩
theorem RoomV.set {B : Nat} {W : World} {v : Value} (h : RoomV B W v) (b k : Nat) (x : Value) : RoomV B (W.setCell ⟨b, k, none⟩ x) v := by
  obtain ⟨A, n, c, rfl, hn, h⟩ := h
  refine ⟨A, n, c, rfl, hn, ?_⟩
  rcases h with h | ⟨g, h1, h2, h3, h4, h5⟩
  · exact .inl h
  · exact .inr ⟨g, h1, h2, h3, by simpa using h4, h5.set b k x⟩
theorem RoomV.of_row {B n c : Nat} {A : Option Addr} {W : World} {xs : List Value} (h : 0 < n → W.ownsRow B 48 6 (.slice A n c) n xs) (hn : n ≤ 1000) : RoomV B W (.slice A n c) := by
  refine ⟨A, n, c, rfl, hn, ?_⟩
  rcases Nat.eq_zero_or_pos n with e | e
  · exact .inl e
  · rcases (h e).2 with ⟨_, h0⟩ | ⟨g, cap, cur, hv, hB, hh, h1, _, h2, _⟩
    · exact .inl h0
    · injection hv with e1 _ e3
      refine .inr ⟨g, e1, by omega, hB, heap_lt hh, cur, hh, by rw [h2]; exact Nat.mul_le_mul_right 6 h1⟩

/-- A code with letters of its own, and an error. -/
def ResC (w : World) (e : Ending) (w' : World) : Prop := ∃ (f : Int) (v : Value) (ce : Int), e = .returned (.tuple #[.agg #[.int .i64 f, v], .int .i64 ce]) ∧ RoomV w.heap.size w' v ∧ Below w.heap.size w w'
theorem OkN.res {f : Int} {n : Nat} {L : List Lt} {w w' : World} {e : Ending} (hn : n ≤ 1000) (h : OkN f n L w e w') : ResC w e w' := by
  obtain ⟨Av, cv, rfl, ho, hb⟩ := h
  exact ⟨f, _, 0, rfl, RoomV.of_row ho hn, hb⟩
theorem OkL.res {f : Int} {n : Nat} {L : List Lt} {w w' : World} {e : Ending} (hl : L.length = n) (hn : n ≤ 1000) (h : OkL f n L w e w') : ResC w e w' := by
  obtain ⟨gL, rfl, ho, hb⟩ := h
  unfold OwnL at ho
  rw [hl] at ho
  exact ⟨f, _, 0, rfl, RoomV.of_row (fun _ => ho) hn, hb⟩
theorem ForgetPost.res {f k : Int} {ls : List Lt} {w w' : World} {e : Ending} (hn : ls.length ≤ 1000) (h : ForgetPost f k ls w e w') : ResC w e w' := by
  rcases h with ⟨_, rfl, hb⟩ | ⟨_, _, rfl, hb⟩ | ⟨_, _, g, rfl, ho, hb⟩
  · exact ⟨0, _, _, rfl, ⟨none, 0, 0, rfl, by omega, .inl rfl⟩, hb⟩
  · exact ⟨0, _, _, rfl, ⟨none, 0, 0, rfl, by omega, .inl rfl⟩, hb⟩
  · unfold OwnL at ho
    rw [List.length_map] at ho
    exact ⟨f - 1, _, 0, rfl, RoomV.of_row (fun _ => ho) hn, hb⟩

/-- The code in its variable, its copy in another one, and the results in theirs. -/
def OwS (P Q : Nat) (f : Int) (vc vq : Value) (V0 : World) (bs : List (Nat × Int × Value)) (W : World) : Prop :=
  Below V0.heap.size V0 W ∧ W.heap[P]? = some (.cells #[.int .i64 f, vc] 24 (0, 0)) ∧ W.heap[Q]? = some (.cells #[.int .i64 f, vq] 24 (0, 0)) ∧ ∀ x, x ∈ bs → W.heap[x.1]? = some (.cells #[.int .i64 x.2.1, x.2.2] 24 (0, 0)) ∧ RoomV V0.heap.size W x.2.2
theorem OwS.below {P Q : Nat} {f : Int} {vc vq : Value} {V0 W W' : World} {bs : List (Nat × Int × Value)} (h : OwS P Q f vc vq V0 bs W) (hb : Below W.heap.size W W') : OwS P Q f vc vq V0 bs W' :=
  ⟨h.1.trans (hb.mono h.1.size), (hb.block _ (heap_lt h.2.1)).trans h.2.1, (hb.block _ (heap_lt h.2.2.1)).trans h.2.2.1, fun x hx => ⟨(hb.block _ (heap_lt (h.2.2.2 x hx).1)).trans (h.2.2.2 x hx).1, (h.2.2.2 x hx).2.below hb⟩⟩
theorem OwS.add {P Q : Nat} {f : Int} {vc vq : Value} {V0 W : World} {bs : List (Nat × Int × Value)} (h : OwS P Q f vc vq V0 bs W) (g : Int) (v : Value) (hv : RoomV V0.heap.size W v) :
    OwS P Q f vc vq V0 ((W.heap.size, g, v) :: bs) (W.alloc (.cells #[.int .i64 g, v] 24)) := by
  have hb : Below W.heap.size W (W.alloc (.cells #[.int .i64 g, v] 24)) := (Below.refl _ _).alloc (Nat.le_refl _) _
  obtain ⟨h1, h2, h3, h4⟩ := h.below hb
  refine ⟨h1, h2, h3, fun x hx => ?_⟩
  rcases List.mem_cons.1 hx with rfl | hx
  · exact ⟨heap_alloc_new W _, hv.below hb⟩
  · exact h4 x hx

/-- The results in a slice. -/
def OwI (G : Nat) (GC : Array Value) (V0 W : World) : Prop :=
  Below V0.heap.size V0 W ∧ W.heap[G]? = some (.cells GC 24 (0, 0)) ∧ ∀ i, i < 6 → ∃ v, GC[i * 2 + 1]? = some v ∧ RoomV V0.heap.size W v
theorem OwI.set {G : Nat} {GC : Array Value} {V0 W : World} (h : OwI G GC V0 W) {g n k : Nat} (hg : V0.heap.size ≤ g) (hr : Room W g n) (x : Value) : OwI G GC V0 (W.setCell ⟨g, k, none⟩ x) := by
  obtain ⟨h1, h2, h3⟩ := h
  have hne : G ≠ g := by
    intro e
    obtain ⟨cur, h4, _⟩ := hr
    rw [← e, h2] at h4
    injection h4 with h4
    injection h4 with _ h4
    exact absurd h4 (by decide)
  refine ⟨h1.setCell (p := ⟨g, k, none⟩) hg x, (Below.heap_setCell _ _ _ G hne).trans h2, fun i hi => ?_⟩
  obtain ⟨v, h4, h5⟩ := h3 i hi
  exact ⟨v, h4, h5.set g k x⟩
def OwR (G : Nat) (GC : Array Value) (V0 : World) (iv : Value) (W : World) : Prop := ∃ i : Nat, i ≤ 6 ∧ iv = .int .i64 (i : Int) ∧ OwI G GC V0 W
def OwR2 (G : Nat) (GC : Array Value) (V0 : World) (n : Nat) (iv : Value) (W : World) : Prop := ∃ i : Nat, i ≤ n ∧ iv = .int .i64 (i : Int) ∧ OwI G GC V0 W

set_option maxHeartbeats 16000000 in
set_option maxRecDepth 100000 in
theorem codeOwn_main (f q : Int) (A : Option Addr) (n c : Nat) (ls : List Lt) (w : World) (hn60 : n ≤ 60) (hL : LS w A n ls)
    (hRC : ∀ W, Below w.heap.size w W → Calls Tryd.prog 13 #[.agg #[.int .i64 f, .slice A n c]] W fun e w' => e = .returned (.int .i64 0) ∧ Below W.heap.size W w')
    (hCP : ∀ W, Below w.heap.size w W → Calls Tryd.prog 29 #[.agg #[.int .i64 f, .slice A n c]] W fun e w' => ∃ Av cv, e = .returned (.agg #[.int .i64 f, .slice Av n cv]) ∧ w'.ownsRow W.heap.size 48 6 (.slice Av n cv) n (ls.flatMap ltCells) ∧ Below W.heap.size W w')
    (hRename : ∀ W, Below w.heap.size w W → Calls Tryd.prog 23 #[.agg #[.int .i64 f, .slice A n c]] W (ResC W))
    (hSwap : ∀ W, Below w.heap.size w W → Calls Tryd.prog 36 #[.agg #[.int .i64 f, .slice A n c]] W (ResC W))
    (hMirror : ∀ W, Below w.heap.size w W → Calls Tryd.prog 37 #[.agg #[.int .i64 f, .slice A n c]] W (ResC W))
    (hForget : ∀ W, Below w.heap.size w W → Calls Tryd.prog 42 #[.agg #[.int .i64 f, .slice A n c], .int .i64 q] W (ResC W))
    (hBack : ∀ W, Below w.heap.size w W → Calls Tryd.prog 31 #[.agg #[.int .i64 f, .slice A n c]] W (ResC W))
    (hNormal : ∀ W, Below w.heap.size w W → Calls Tryd.prog 22 #[.agg #[.int .i64 f, .slice A n c]] W (ResC W))
    (hT : ItoaAll w) :
    Calls Tryd.prog 11 #[.agg #[.int .i64 f, .slice A n c], .int .i64 q] w fun e w' => e = .returned (.bool true) ∧ Below w.heap.size w w' := by
  have HRC := Lib.hid hRC
  have HCP := Lib.hid hCP
  have HT := Lib.hid hT
  have HL := Lib.hid hL
  have hle : n ≤ 1000000 := by omega
  have HRename := Lib.hid hRename
  have HSwap := Lib.hid hSwap
  have HMirror := Lib.hid hMirror
  have HForget := Lib.hid hForget
  have HBack := Lib.hid hBack
  have HNormal := Lib.hid hNormal
  have HKN : Hid (∀ W, Below w.heap.size w W → Calls Tryd.prog 14 #[] W fun e w' => e = .returned (.bool true) ∧ Below W.heap.size W w') := fun W hW => known_calls W (HT.out.below hW)
  have t1 : decide ((n : Int) ≤ 60) = true := by rw [decide_eq_true_iff]; omega
  have HSM := Lib.hid (fun W => small_calls f A n c true W t1)
  clear hRC hCP hL hT hn60 hRename hSwap hMirror hForget hBack hNormal
  go_enter Tryd.func11, Tryd.ntmps11
  go_wp2_with fail
  obtain ⟨W0, hW0⟩ : ∃ W0, W0 = w.alloc (.cells #[.int .i64 f, .slice A n c] 24) := ⟨_, rfl⟩
  obtain ⟨P, hP⟩ : ∃ P, P = w.heap.size := ⟨_, rfl⟩
  have HB0 : Hid (Below w.heap.size w W0) := by rw [hW0]; exact (Below.refl _ _).alloc (Nat.le_refl _) _
  have HP0 : Hid (W0.heap[P]? = some (.cells #[.int .i64 f, .slice A n c] 24 (0, 0))) := by rw [hW0, hP]; exact heap_alloc_new w _
  rw [← hW0, ← hP]
  clear hW0 hP
  refine (HSM.out _).mono ?_
  rintro e w1 ⟨rfl, hb⟩
  have HB1 : Hid (Below w.heap.size w w1) := HB0.out.trans (hb.mono HB0.out.size)
  have HP1 : Hid (w1.heap[P]? = some (.cells #[.int .i64 f, .slice A n c] 24 (0, 0))) := (hb.block P (heap_lt HP0.out)).trans HP0.out
  clear hb HB0 HP0
  have a0 := Lib.cell_of_heap HP1.out 0
  have a1 := Lib.cell_of_heap HP1.out 1
  go_wp2_with fail
  refine (HRC.out _ HB1.out).mono ?_
  rintro e w2 ⟨rfl, hb⟩
  have HB2 : Hid (Below w.heap.size w w2) := HB1.out.trans (hb.mono HB1.out.size)
  have HP2 : Hid (w2.heap[P]? = some (.cells #[.int .i64 f, .slice A n c] 24 (0, 0))) := (hb.block P (heap_lt HP1.out)).trans HP1.out
  clear hb HB1 HP1 a0 a1
  have a0 := Lib.cell_of_heap HP2.out 0
  have a1 := Lib.cell_of_heap HP2.out 1
  go_wp2_with fail
  refine (HCP.out _ HB2.out).mono ?_
  rintro e w3 ⟨Aq, cq, rfl, ho, hb⟩
  obtain ⟨Q, hQ⟩ : ∃ B, B = w3.heap.size := ⟨_, rfl⟩
  obtain ⟨V0, hV0⟩ : ∃ V, V = w3.alloc (.cells #[.int .i64 f, .slice Aq n cq] 24) := ⟨_, rfl⟩
  have hbv : Below w3.heap.size w3 V0 := by rw [hV0]; exact (Below.refl _ _).alloc (Nat.le_refl _) _
  have hb2 : Below w2.heap.size w2 V0 := hb.trans (hbv.mono hb.size)
  have HB3 : Hid (Below w.heap.size w V0) := HB2.out.trans (hb2.mono HB2.out.size)
  have HLQ : Hid (LS V0 Aq n ls) := (row_ls ho HL.out.1).below hbv
  have HLP : Hid (LS V0 A n ls) := HL.out.below HB3.out
  have HZ0 : Hid (OwS P Q f (.slice A n c) (.slice Aq n cq) V0 [] V0) := ⟨Below.refl _ _, (hb2.block P (heap_lt HP2.out)).trans HP2.out, by rw [hV0, hQ]; exact heap_alloc_new w3 _, fun x hx => by cases hx⟩
  have HZ0P := Lib.hid HZ0.out.2.1
  have HZ0Q := Lib.hid HZ0.out.2.2.1
  have HVE := Lib.hid hV0
  have HQE := Lib.hid hQ
  clear a0 a1
  have a0 := Lib.cell_of_heap HZ0.out.2.1 0
  have a1 := Lib.cell_of_heap HZ0.out.2.1 1
  rw [hV0] at a0 a1
  clear hb ho HB2 HP2 hbv hb2 hV0 hQ HL
  go_wp2_with fail
  rw [← HQE.out, ← HVE.out]
  refine (HRename.out _ (HB3.out.trans (HZ0.out.1.mono HB3.out.size))).mono ?_
  rintro e u0 ⟨g0, _, ce0, rfl, ⟨Ar0, nr0, cr0, rfl, hr1, hr2⟩, hb⟩
  have hr : RoomV _ _ (.slice Ar0 nr0 cr0) := ⟨Ar0, nr0, cr0, rfl, hr1, hr2⟩
  obtain ⟨B0, hB⟩ : ∃ B, B = u0.heap.size := ⟨_, rfl⟩
  obtain ⟨X1, hV⟩ : ∃ V, V = u0.alloc (.cells #[.int .i64 g0, .slice Ar0 nr0 cr0] 24) := ⟨_, rfl⟩
  have HZ1 := Lib.hid ((HZ0.out.below hb).add g0 (.slice Ar0 nr0 cr0) (hr.mono HZ0.out.1.size))
  rw [← hV, ← hB] at HZ1
  have HVE0 := Lib.hid hV
  have HBE0 := Lib.hid hB
  clear a0 a1
  have a0 := Lib.cell_of_heap HZ1.out.2.1 0
  have a1 := Lib.cell_of_heap HZ1.out.2.1 1
  rw [hV] at a0 a1
  clear hb hr hr1 hr2 HZ0 hV hB
  go_wp2_with fail
  rw [← HBE0.out, ← HVE0.out]
  refine (HSwap.out _ (HB3.out.trans (HZ1.out.1.mono HB3.out.size))).mono ?_
  rintro e u1 ⟨g1, _, ce1, rfl, ⟨Ar1, nr1, cr1, rfl, hr1, hr2⟩, hb⟩
  have hr : RoomV _ _ (.slice Ar1 nr1 cr1) := ⟨Ar1, nr1, cr1, rfl, hr1, hr2⟩
  obtain ⟨B1, hB⟩ : ∃ B, B = u1.heap.size := ⟨_, rfl⟩
  obtain ⟨X2, hV⟩ : ∃ V, V = u1.alloc (.cells #[.int .i64 g1, .slice Ar1 nr1 cr1] 24) := ⟨_, rfl⟩
  have HZ2 := Lib.hid ((HZ1.out.below hb).add g1 (.slice Ar1 nr1 cr1) (hr.mono HZ1.out.1.size))
  rw [← hV, ← hB] at HZ2
  have HVE1 := Lib.hid hV
  have HBE1 := Lib.hid hB
  clear a0 a1
  have a0 := Lib.cell_of_heap HZ2.out.2.1 0
  have a1 := Lib.cell_of_heap HZ2.out.2.1 1
  rw [hV] at a0 a1
  clear hb hr hr1 hr2 HZ1 hV hB
  go_wp2_with fail
  rw [← HBE1.out, ← HVE1.out]
  refine (HMirror.out _ (HB3.out.trans (HZ2.out.1.mono HB3.out.size))).mono ?_
  rintro e u2 ⟨g2, _, ce2, rfl, ⟨Ar2, nr2, cr2, rfl, hr1, hr2⟩, hb⟩
  have hr : RoomV _ _ (.slice Ar2 nr2 cr2) := ⟨Ar2, nr2, cr2, rfl, hr1, hr2⟩
  obtain ⟨B2, hB⟩ : ∃ B, B = u2.heap.size := ⟨_, rfl⟩
  obtain ⟨X3, hV⟩ : ∃ V, V = u2.alloc (.cells #[.int .i64 g2, .slice Ar2 nr2 cr2] 24) := ⟨_, rfl⟩
  have HZ3 := Lib.hid ((HZ2.out.below hb).add g2 (.slice Ar2 nr2 cr2) (hr.mono HZ2.out.1.size))
  rw [← hV, ← hB] at HZ3
  have HVE2 := Lib.hid hV
  have HBE2 := Lib.hid hB
  clear a0 a1
  have a0 := Lib.cell_of_heap HZ3.out.2.1 0
  have a1 := Lib.cell_of_heap HZ3.out.2.1 1
  rw [hV] at a0 a1
  clear hb hr hr1 hr2 HZ2 hV hB
  go_wp2_with fail
  rw [← HBE2.out, ← HVE2.out]
  refine (HForget.out _ (HB3.out.trans (HZ3.out.1.mono HB3.out.size))).mono ?_
  rintro e u3 ⟨g3, _, ce3, rfl, ⟨Ar3, nr3, cr3, rfl, hr1, hr2⟩, hb⟩
  have hr : RoomV _ _ (.slice Ar3 nr3 cr3) := ⟨Ar3, nr3, cr3, rfl, hr1, hr2⟩
  obtain ⟨B3, hB⟩ : ∃ B, B = u3.heap.size := ⟨_, rfl⟩
  obtain ⟨X4, hV⟩ : ∃ V, V = u3.alloc (.cells #[.int .i64 g3, .slice Ar3 nr3 cr3] 24) := ⟨_, rfl⟩
  have HZ4 := Lib.hid ((HZ3.out.below hb).add g3 (.slice Ar3 nr3 cr3) (hr.mono HZ3.out.1.size))
  rw [← hV, ← hB] at HZ4
  have HVE3 := Lib.hid hV
  have HBE3 := Lib.hid hB
  clear a0 a1
  have a0 := Lib.cell_of_heap HZ4.out.2.1 0
  have a1 := Lib.cell_of_heap HZ4.out.2.1 1
  rw [hV] at a0 a1
  clear hb hr hr1 hr2 HZ3 hV hB
  go_wp2_with fail
  rw [← HBE3.out, ← HVE3.out]
  refine (HBack.out _ (HB3.out.trans (HZ4.out.1.mono HB3.out.size))).mono ?_
  rintro e u4 ⟨g4, _, ce4, rfl, ⟨Ar4, nr4, cr4, rfl, hr1, hr2⟩, hb⟩
  have hr : RoomV _ _ (.slice Ar4 nr4 cr4) := ⟨Ar4, nr4, cr4, rfl, hr1, hr2⟩
  obtain ⟨B4, hB⟩ : ∃ B, B = u4.heap.size := ⟨_, rfl⟩
  obtain ⟨X5, hV⟩ : ∃ V, V = u4.alloc (.cells #[.int .i64 g4, .slice Ar4 nr4 cr4] 24) := ⟨_, rfl⟩
  have HZ5 := Lib.hid ((HZ4.out.below hb).add g4 (.slice Ar4 nr4 cr4) (hr.mono HZ4.out.1.size))
  rw [← hV, ← hB] at HZ5
  have HVE4 := Lib.hid hV
  have HBE4 := Lib.hid hB
  clear a0 a1
  have a0 := Lib.cell_of_heap HZ5.out.2.1 0
  have a1 := Lib.cell_of_heap HZ5.out.2.1 1
  rw [hV] at a0 a1
  clear hb hr hr1 hr2 HZ4 hV hB
  go_wp2_with fail
  rw [← HBE4.out, ← HVE4.out]
  refine (HNormal.out _ (HB3.out.trans (HZ5.out.1.mono HB3.out.size))).mono ?_
  rintro e u5 ⟨g5, _, ce5, rfl, ⟨Ar5, nr5, cr5, rfl, hr1, hr2⟩, hb⟩
  have hr : RoomV _ _ (.slice Ar5 nr5 cr5) := ⟨Ar5, nr5, cr5, rfl, hr1, hr2⟩
  obtain ⟨B5, hB⟩ : ∃ B, B = u5.heap.size := ⟨_, rfl⟩
  obtain ⟨X6, hV⟩ : ∃ V, V = u5.alloc (.cells #[.int .i64 g5, .slice Ar5 nr5 cr5] 24) := ⟨_, rfl⟩
  have HZ6 := Lib.hid ((HZ5.out.below hb).add g5 (.slice Ar5 nr5 cr5) (hr.mono HZ5.out.1.size))
  rw [← hV, ← hB] at HZ6
  have HVE5 := Lib.hid hV
  have HBE5 := Lib.hid hB
  clear a0 a1
  have a0 := Lib.cell_of_heap HZ6.out.2.1 0
  have a1 := Lib.cell_of_heap HZ6.out.2.1 1
  rw [hV] at a0 a1
  clear hb hr hr1 hr2 HZ5 hV hB
  have HSB : Hid (OwS P Q f (.slice A n c) (.slice Aq n cq) V0 [(B5, g5, .slice Ar5 nr5 cr5), (B4, g4, .slice Ar4 nr4 cr4), (B3, g3, .slice Ar3 nr3 cr3), (B2, g2, .slice Ar2 nr2 cr2), (B1, g1, .slice Ar1 nr1 cr1), (B0, g0, .slice Ar0 nr0 cr0)] X6) := HZ6.out
  have s00 := Lib.cell_of_heap (HZ6.out.2.2.2 (B0, g0, .slice Ar0 nr0 cr0) (by simp)).1 0
  have s01 := Lib.cell_of_heap (HZ6.out.2.2.2 (B0, g0, .slice Ar0 nr0 cr0) (by simp)).1 1
  rw [HVE5.out] at s00 s01
  have s10 := Lib.cell_of_heap (HZ6.out.2.2.2 (B1, g1, .slice Ar1 nr1 cr1) (by simp)).1 0
  have s11 := Lib.cell_of_heap (HZ6.out.2.2.2 (B1, g1, .slice Ar1 nr1 cr1) (by simp)).1 1
  rw [HVE5.out] at s10 s11
  have s20 := Lib.cell_of_heap (HZ6.out.2.2.2 (B2, g2, .slice Ar2 nr2 cr2) (by simp)).1 0
  have s21 := Lib.cell_of_heap (HZ6.out.2.2.2 (B2, g2, .slice Ar2 nr2 cr2) (by simp)).1 1
  rw [HVE5.out] at s20 s21
  have s30 := Lib.cell_of_heap (HZ6.out.2.2.2 (B3, g3, .slice Ar3 nr3 cr3) (by simp)).1 0
  have s31 := Lib.cell_of_heap (HZ6.out.2.2.2 (B3, g3, .slice Ar3 nr3 cr3) (by simp)).1 1
  rw [HVE5.out] at s30 s31
  have s40 := Lib.cell_of_heap (HZ6.out.2.2.2 (B4, g4, .slice Ar4 nr4 cr4) (by simp)).1 0
  have s41 := Lib.cell_of_heap (HZ6.out.2.2.2 (B4, g4, .slice Ar4 nr4 cr4) (by simp)).1 1
  rw [HVE5.out] at s40 s41
  have s50 := Lib.cell_of_heap (HZ6.out.2.2.2 (B5, g5, .slice Ar5 nr5 cr5) (by simp)).1 0
  have s51 := Lib.cell_of_heap (HZ6.out.2.2.2 (B5, g5, .slice Ar5 nr5 cr5) (by simp)).1 1
  rw [HVE5.out] at s50 s51
  clear a0 a1
  go_wp2_with fail
  rw [← HVE5.out]
  have hsz6 : X6.heap.size = u5.heap.size + 1 := by rw [HVE5.out]; simp
  obtain ⟨G, hG⟩ : ∃ G, G = u5.heap.size + 1 := ⟨_, rfl⟩
  obtain ⟨GC, hGC⟩ : ∃ GC : Array Value, GC = #[.int .i64 g0, .slice Ar0 nr0 cr0, .int .i64 g1, .slice Ar1 nr1 cr1, .int .i64 g2, .slice Ar2 nr2 cr2, .int .i64 g3, .slice Ar3 nr3 cr3, .int .i64 g4, .slice Ar4 nr4 cr4, .int .i64 g5, .slice Ar5 nr5 cr5] := ⟨_, rfl⟩
  obtain ⟨Y, hY⟩ : ∃ Y, Y = X6.alloc (.cells GC 24) := ⟨_, rfl⟩
  have hbY : Below X6.heap.size X6 Y := by rw [hY]; exact (Below.refl _ _).alloc (Nat.le_refl _) _
  have HZY := Lib.hid (HSB.out.below hbY)
  have HI0 : Hid (OwI G GC V0 Y) := by
    refine ⟨HZY.out.1, by rw [hY, hG, ← hsz6]; exact heap_alloc_new X6 _, fun i hi => ?_⟩
    rw [hGC]
    rcases (show i = 0 ∨ i = 1 ∨ i = 2 ∨ i = 3 ∨ i = 4 ∨ i = 5 by omega) with rfl | rfl | rfl | rfl | rfl | rfl
    · exact ⟨.slice Ar0 nr0 cr0, rfl, (HZY.out.2.2.2 (B0, g0, .slice Ar0 nr0 cr0) (by simp)).2⟩
    · exact ⟨.slice Ar1 nr1 cr1, rfl, (HZY.out.2.2.2 (B1, g1, .slice Ar1 nr1 cr1) (by simp)).2⟩
    · exact ⟨.slice Ar2 nr2 cr2, rfl, (HZY.out.2.2.2 (B2, g2, .slice Ar2 nr2 cr2) (by simp)).2⟩
    · exact ⟨.slice Ar3 nr3 cr3, rfl, (HZY.out.2.2.2 (B3, g3, .slice Ar3 nr3 cr3) (by simp)).2⟩
    · exact ⟨.slice Ar4 nr4 cr4, rfl, (HZY.out.2.2.2 (B4, g4, .slice Ar4 nr4 cr4) (by simp)).2⟩
    · exact ⟨.slice Ar5 nr5 cr5, rfl, (HZY.out.2.2.2 (B5, g5, .slice Ar5 nr5 cr5) (by simp)).2⟩
  rw [← hGC, ← hY, ← hG]
  have HPV := Lib.hid (heap_lt HZ0P.out)
  clear hG hGC hY hbY HZY hsz6 s00 s01 s10 s11 s20 s21 s30 s31 s40 s41 s50 s51
  go_loopw [19] (fun iv wr => OwR G GC V0 iv wr) (fun iv _ => 6 - (intOf iv).toNat)
  case atStart => exact ⟨0, by omega, rfl, HI0.out⟩
  case round =>
    obtain ⟨i, hi6, rfl, hoi⟩ := hrel
    have HOI := Lib.hid hoi
    by_cases hlt : i < 6
    · have hii : (i : Int) < 6 := by omega
      obtain ⟨_, hgc, ⟨Ai, ni, ci, rfl, hn1, hroom⟩⟩ := hoi.2.2 i hlt
      have HGC := Lib.hid hgc
      have HROOM := Lib.hid hroom
      clear hoi hgc hroom
      go_wp2_with fail
      go_loopw [20] (fun iv wr => OwR2 G GC V0 ni iv wr) (fun iv _ => ni - (intOf iv).toNat)
      case atStart => exact ⟨0, Nat.zero_le _, rfl, HOI.out⟩
      case round =>
        obtain ⟨k, hkn, rfl, hoi⟩ := hrel
        have HOI2 := Lib.hid hoi
        have x1 : wr.cell? ⟨G, i * 2 + 1, none⟩ = some (.slice Ai ni ci) := by rw [Lib.cell_of_heap hoi.2.1 (i * 2 + 1)]; exact HGC.out
        obtain ⟨v9, hv9, hrv⟩ := hoi.2.2 i hlt
        rw [HGC.out] at hv9
        injection hv9 with hv9
        subst hv9
        obtain ⟨A9, n9, c9, he9, _, hrm⟩ := hrv
        injection he9 with e1 e2 e3
        subst e1
        subst e2
        subst e3
        clear hoi
        by_cases hk : k < ni
        · rcases hrm with h0 | ⟨g, hAi, hnc, hBg, hgw, hR⟩
          · omega
          · subst hAi
            obtain ⟨⟨x, hx⟩, hf⟩ := hR.cell hk (show 1 < 6 by omega)
            have hki : (k : Int) < ni := by omega
            have HRm := Lib.hid hR
            have HBg := Lib.hid hBg
            clear hR hBg
            go_wp2_with fail
            go_roundw
            case rel => exact ⟨k + 1, by omega, by rw [Int.natCast_add]; rfl, (HOI2.out.set HBg.out HRm.out _)⟩
            case measure => simp [intOf]; omega
        · obtain rfl : k = ni := by omega
          clear hrm
          go_wp2_with fail
          go_roundw
          case rel => exact ⟨i + 1, by omega, by rw [Int.natCast_add]; rfl, HOI2.out⟩
          case measure => simp [intOf]; omega
    · obtain rfl : i = 6 := by omega
      have hp := (hoi.1.block P HPV.out).trans HZ0P.out
      have hq := (hoi.1.block Q (heap_lt HZ0Q.out)).trans HZ0Q.out
      have a0 := Lib.cell_of_heap hp 0
      have a1 := Lib.cell_of_heap hp 1
      have b0 := Lib.cell_of_heap hq 0
      have b1 := Lib.cell_of_heap hq 1
      clear hoi hp hq
      go_wp2_with fail
      refine (codeEq_yes f A Aq n n c cq ls wr (HLP.out.below HOI.out.1) (HLQ.out.below HOI.out.1) hle).mono ?_
      rintro e w8 ⟨rfl, hb⟩
      have HB8 : Hid (Below w.heap.size w w8) := (HB3.out.trans (HOI.out.1.mono HB3.out.size)).trans (hb.mono (HB3.out.trans (HOI.out.1.mono HB3.out.size)).size)
      clear hb a0 a1 b0 b1
      go_wp2_with fail
      refine (HKN.out _ HB8.out).mono ?_
      rintro e w9 ⟨rfl, hb⟩
      have HF : Hid (Below w.heap.size w w9) := HB8.out.trans (hb.mono HB8.out.size)
      clear hb
      go_wp2_with fail
      go_ret
      exact ⟨rfl, HF.out⟩

set_option maxHeartbeats 8000000 in
set_option maxRecDepth 100000 in
theorem codeOwn_big (f : Int) (A : Option Addr) (n c : Nat) (q : Int) (w : World) (hn : ¬ n ≤ 60) (hT : ItoaAll w) :
    Calls Tryd.prog 11 #[.agg #[.int .i64 f, .slice A n c], .int .i64 q] w fun e w' => e = .returned (.bool true) ∧ Below w.heap.size w w' := by
  have HT := Lib.hid hT
  have t1 : decide ((n : Int) ≤ 60) = false := by rw [decide_eq_false_iff_not]; omega
  have HSM := Lib.hid (fun W => small_calls f A n c false W t1)
  clear hT hn
  go_enter Tryd.func11, Tryd.ntmps11
  go_wp2_with fail
  obtain ⟨W0, hW0⟩ : ∃ W0, W0 = w.alloc (.cells #[.int .i64 f, .slice A n c] 24) := ⟨_, rfl⟩
  have HB0 : Hid (Below w.heap.size w W0) := by rw [hW0]; exact (Below.refl _ _).alloc (Nat.le_refl _) _
  have HP0 : Hid (W0.heap[w.heap.size]? = some (.cells #[.int .i64 f, .slice A n c] 24 (0, 0))) := by rw [hW0]; exact heap_alloc_new w _
  rw [← hW0]
  clear hW0
  refine (HSM.out _).mono ?_
  rintro e w1 ⟨rfl, hb⟩
  have HB1 : Hid (Below w.heap.size w w1) := HB0.out.trans (hb.mono HB0.out.size)
  have HP1 : Hid (w1.heap[w.heap.size]? = some (.cells #[.int .i64 f, .slice A n c] 24 (0, 0))) := (hb.block _ (heap_lt HP0.out)).trans HP0.out
  clear hb HB0 HP0
  go_wp2_with fail
  refine (known_calls _ (HT.out.below HB1.out)).mono ?_
  rintro e w2 ⟨rfl, hb⟩
  have HB2 : Hid (Below w.heap.size w w2) := HB1.out.trans (hb.mono HB1.out.size)
  clear hb
  go_wp2_with fail
  go_ret
  exact ⟨rfl, HB2.out⟩

set_option maxHeartbeats 8000000 in
set_option maxRecDepth 100000 in
theorem codeOwn_bad (f : Int) (A : Option Addr) (n c : Nat) (q : Int) (ce : Int) (w : World) (hn : n ≤ 60) (hz : ce ≠ 0) (hRC : ∀ W, Below w.heap.size w W → Calls Tryd.prog 13 #[.agg #[.int .i64 f, .slice A n c]] W fun e w' => e = .returned (.int .i64 ce) ∧ Below W.heap.size W w') (hT : ItoaAll w) :
    Calls Tryd.prog 11 #[.agg #[.int .i64 f, .slice A n c], .int .i64 q] w fun e w' => e = .returned (.bool true) ∧ Below w.heap.size w w' := by
  have HT := Lib.hid hT
  have HRC := Lib.hid hRC
  have t1 : decide ((n : Int) ≤ 60) = true := by rw [decide_eq_true_iff]; omega
  have HSM := Lib.hid (fun W => small_calls f A n c true W t1)
  have hzb : (ce != 0) = true := by simp [hz]
  clear hT hn hRC
  go_enter Tryd.func11, Tryd.ntmps11
  go_wp2_with fail
  obtain ⟨W0, hW0⟩ : ∃ W0, W0 = w.alloc (.cells #[.int .i64 f, .slice A n c] 24) := ⟨_, rfl⟩
  have HB0 : Hid (Below w.heap.size w W0) := by rw [hW0]; exact (Below.refl _ _).alloc (Nat.le_refl _) _
  have HP0 : Hid (W0.heap[w.heap.size]? = some (.cells #[.int .i64 f, .slice A n c] 24 (0, 0))) := by rw [hW0]; exact heap_alloc_new w _
  rw [← hW0]
  clear hW0
  refine (HSM.out _).mono ?_
  rintro e w1 ⟨rfl, hb⟩
  have HB1 : Hid (Below w.heap.size w w1) := HB0.out.trans (hb.mono HB0.out.size)
  have HP1 : Hid (w1.heap[w.heap.size]? = some (.cells #[.int .i64 f, .slice A n c] 24 (0, 0))) := (hb.block _ (heap_lt HP0.out)).trans HP0.out
  clear hb HB0 HP0
  have a0 := Lib.cell_of_heap HP1.out 0
  have a1 := Lib.cell_of_heap HP1.out 1
  go_wp2_with fail
  refine (HRC.out _ HB1.out).mono ?_
  rintro e w2 ⟨rfl, hb⟩
  have HB2 : Hid (Below w.heap.size w w2) := HB1.out.trans (hb.mono HB1.out.size)
  clear hb a0 a1
  go_wp2_with fail
  refine (known_calls _ (HT.out.below HB2.out)).mono ?_
  rintro e w3 ⟨rfl, hb⟩
  have HB3 : Hid (Below w.heap.size w w3) := HB2.out.trans (hb.mono HB2.out.size)
  clear hb
  go_wp2_with fail
  go_ret
  exact ⟨rfl, HB3.out⟩


theorem codeOwn_walk (f : Int) (A : Option Addr) (n c : Nat) (ls : List Lt) (q : Int) (w : World) (_hf : I64 f) (hL : LS w A n ls) (_hn : n ≤ maxLen) (hI : ∀ l, l ∈ ls → LtAll l) (hz : A = none → c = 0) (_hs : n ≤ c) (hA : ∀ b off, A = some ⟨b, off, none⟩ → b < w.heap.size) (hsp : ∀ a, A = some a → a.spot = none) (_hq : I64 q) (hT : ItoaAll w) :
    Calls Tryd.prog 11 #[.agg #[.int .i64 f, .slice A n c], .int .i64 q] w fun e w' => e = .returned (.bool true) ∧ Below w.heap.size w w' := by
  by_cases hn : n ≤ 60
  · have hRC : ∀ W, Below w.heap.size w W → Calls Tryd.prog 13 #[.agg #[.int .i64 f, .slice A n c]] W fun e w' => e = .returned (.int .i64 (checkE f ls)) ∧ Below W.heap.size W w' :=
      fun W hW => refCheck_full f A n c ls W (hL.below hW)
    by_cases hv : checkE f ls = 0
    · rw [hv] at hRC
      have hI' : ∀ l, l ∈ ls → I64 l.id := fun l hl => (hI l hl).2.2.2.1
      obtain ⟨st, pt, V⟩ := valid_parts hv
      have hC : ∀ W, Below w.heap.size w W → ChkAt f A n c 0 W := by
        intro W hW X hX
        have hWX := hW.trans (hX.mono hW.size)
        have h := check_calls f A n c ls X (hL.below hWX) (fun b off e => Nat.lt_of_lt_of_le (hA b off e) hWX.size) hI'
        rw [hv] at h
        exact h
      have hrk := checkE_rank hv
      have hlen := hL.1
      obtain ⟨fn, rfl⟩ : ∃ fn : Nat, f = (fn : Int) := ⟨f.toNat, by have := V.fin; omega⟩
      refine codeOwn_main (fn : Int) q A n c ls w hn hL hRC (fun W hW => refCopy2 (fn : Int) A n c ls W (hL.below hW) hz hsp (by omega)) (fun W hW => ?_) (fun W hW => ?_) (fun W hW => ?_) (fun W hW => ?_) (fun W hW => ?_) (fun W hW => ?_) hT
      · exact (rename_calls (fn : Int) A n c (renL ls) W (hC W hW) (fun X hX => renamed_ok (fn : Int) A n c ls X (hL.below (hW.trans (hX.mono hW.size))) hz hsp (by omega) V.ids0)).mono (fun e w' h => h.res (by omega))
      · exact (swap_calls (fn : Int) A n c ls W (hL.below hW) (by omega) V.plain (hC W hW)).mono (fun e w' h => h.res (by rw [List.length_map]; exact hlen) (by omega))
      · exact (mirror_calls fn A n c ls W (hL.below hW) (by omega) (by have := V.fin; omega) V.plain (fun l hl hk => (hrk l hl hk).2) (hC W hW)).mono (fun e w' h => h.res (by rw [List.length_map]; exact hlen) (by omega))
      · exact (forget_calls (fn : Int) q A n c ls W (hL.below hW) (fun b off e => Nat.lt_of_lt_of_le (hA b off e) hW.size) hI' (fun l hl hk => (hrk l hl hk).2)).mono (fun e w' h => h.res (by omega))
      · refine (back_calls (fn : Int) A n c ls W (hL.below hW) (by omega) V.closed (hC W hW)).mono ?_
        rintro e w' ⟨r, _, h⟩
        exact h.res (by rw [followL_len]; exact hlen) (by omega)
      · exact (normal_ok (fn : Int) A n c ls W (hL.below hW) (fun b off e => Nat.lt_of_lt_of_le (hA b off e) hW.size) hI' hv).mono (fun e w' h => h.res (by omega))
    · exact codeOwn_bad f A n c q (checkE f ls) w hn hv hRC hT
  · exact codeOwn_big f A n c q w hn hT

end Go.Proofs.YtjdabkniojmacaaDoor
