/-
  The walks of line.positions, line.arcs, line.tangled, line.drawn for two positions, and of line.Ranks and line.Circle for circles.
-/
import Derived.Test.YtenomnkdfiojbaaDoorLawsW
import Derived.Test.YtenomnkdfiojbaaDoorOnly
namespace Go.Proofs.YtenomnkdfiojbaaDoor
open Go.RowKit

def posL (xs ys : List Int) : List Int := (List.range xs.length).map fun i => xs.getD i 0 * 401 + ys.getD i 0

set_option maxHeartbeats 1000000 in
theorem positions_calls (A1 A2 : Option Addr) (n c1 c2 : Nat) (xs ys : List Int) (w : World) (h1 : SL w A1 n xs) (h2 : SL w A2 n ys) (hn : n ≤ 1000) (hr : ∀ x, x ∈ xs → 0 ≤ x ∧ x ≤ 40) (hr2 : ∀ x, x ∈ ys → 0 ≤ x ∧ x ≤ 1000000) :
    Calls Tryd.prog 58 #[.slice A1 n c1, .slice A2 n c2] w (ListPost w (posL xs ys) n) := by
  have HL := Lib.hid h1.1
  have HR := Lib.hid hr
  have HR2 := Lib.hid hr2
  clear hr hr2
  go_enter Tryd.func58, Tryd.ntmps58
  go_wp2_with (at_make; refine wpList_make_ints rfl _ _ rfl n rfl rfl (by omega) ?_; intro w1 hown1 hb1)
  go_loopw [13] (fun i wr => FillRel (fun i => xs.getD i 0 * 401 + ys.getD i 0) n w w.heap.size w.heap.size i wr) (fun i _ => n - (intOf i).toNat)
  case atStart => exact ⟨0, Nat.zero_le _, rfl, by rw [fillL_zero]; exact hown1, hb1⟩
  case round =>
    obtain ⟨j, hj, rfl, hown, hb⟩ := hrel
    have HOWN := Lib.hid hown
    clear hown1 hown
    by_cases hlt : j < n
    · obtain ⟨b, off, x, rfl, _, hx, hc⟩ := (h1.below hb).at_ hlt
      obtain ⟨b', off', u, rfl, _, hu, hd⟩ := (h2.below hb).at_ hlt
      have hxr := HR.out x (List.mem_of_getElem? hx)
      have hur := HR2.out u (List.mem_of_getElem? hu)
      obtain ⟨x0, x1⟩ := hxr
      obtain ⟨u0, u1⟩ := hur
      have hgx : xs.getD j 0 = x := by rw [List.getD_eq_getElem?_getD, hx]; rfl
      have hgu : ys.getD j 0 = u := by rw [List.getD_eq_getElem?_getD, hu]; rfl
      obtain ⟨y, hy, hyc, hyf, hyg⟩ := HOWN.out.cell (k := j) hlt
      have HREL : Hid (FillRel (fun i => xs.getD i 0 * 401 + ys.getD i 0) n w w.heap.size w.heap.size (.int .i64 ((j : Int) + 1)) (wr.setCell ⟨w.heap.size, j, none⟩ (.int .i64 (x * 401 + u)))) :=
        ⟨j + 1, by omega, by rw [Int.natCast_add]; rfl, by rw [← fillL_set, hgx, hgu]; exact HOWN.out.set hlt _, hb.setCell (p := ⟨w.heap.size, j, none⟩) hyg _⟩
      clear hx hu hgx hgu hy
      go_wp2_with fail
      go_roundw
      case rel => exact HREL.out
      case measure => simp [intOf]; omega
    · obtain rfl : j = n := by omega
      go_wp2_with fail
      go_ret
      have e := HOWN.out
      rw [fillL_full] at e
      refine ListPost.of (by simp [posL, HL.out]) ?_ hb
      unfold posL
      rw [HL.out]
      exact e

theorem infoArc : (Tryd.prog.info? 85).map (fun i => (i.zero, i.size, i.bytes)) = some (some (.agg #[.int .i64 0, .int .i64 0]), 2, 16) := by kernel_rfl

/-- An arc appended to nothing. -/
theorem wpList_append_arc {w : World} {ops : Array Oper} {rest : List Oper} {o : Oper} {a : Act} {Q : Exit → Act → World → Prop} (hgd : o.guard = none) (s x : Operand)
    (ho : o.op = .call { callee := .builtin .append, args := #[s, x], argTypes := #[77, 77] })
    (hs : a.eval s = .slice none 0 0) (B : Nat) (l r : Value) (fr : Nat × Nat) (t : TypeId) (hx : a.eval x = .slice (some ⟨B, 0, none⟩) 1 1) (hb : w.heap[B]? = some (.cells #[l, r] t fr)) (h1 : l.oneCell' = true) (h2 : r.oneCell' = true)
    (h : ∀ g cap w', w'.cell? ⟨g, 0, none⟩ = some l → w'.cell? ⟨g, 1, none⟩ = some r → Below w.heap.size w w' → wpList Tryd.prog ops Q rest (a.put o.dst (.slice (some ⟨g, 0, none⟩) 1 cap)) w') :
    wpList Tryd.prog ops Q (o :: rest) a w := by
  obtain ⟨i0, hi, hz0, hz1, hz2⟩ := info_parts infoArc
  refine wpList_append_lies w hgd s x 77 ho w.heap.size 85 i0 (.agg #[.int .i64 0, .int .i64 0]) 2 16 Tryd.underlying77 hi hz0 hz1 hz2 rfl (by decide) (.slice none 0 0) 0 [] hs (World.ownsRow_nil _ _ _ _)
    ⟨B, 0, none⟩ 1 1 [l, r] hx rfl (World.news_of_block hb) ?_ (by decide) (by decide) (by decide) (Nat.le_refl _) w.heap.size rfl ?_
  · intro u hu
    rcases List.mem_cons.1 hu with rfl | hu
    · exact h1
    · rw [List.mem_singleton] at hu; subst hu; exact h2
  · intro g cap w' hown hg hat hlt
    have hc := hown.cells (g := g) rfl
    refine h g cap w' ?_ ?_ ((Below.refl _ _).grown hg (Nat.le_refl _) (fun k hk => by cases hk))
    · have := hc 0 l rfl; simpa [Addr.add] using this
    · have := hc 1 r rfl; simpa [Addr.add] using this

def ArcRel (f a b : Int) (w : World) (v i : Value) (wr : World) : Prop :=
  (v = .slice none 0 0 ∧ i = .int .i64 f ∧ Below w.heap.size w wr) ∨
  (∃ g c i', v = .slice (some ⟨g, 0, none⟩) 1 c ∧ i = .int .i64 i' ∧ 2 ≤ i' ∧ i' ≤ 3 ∧ wr.cell? ⟨g, 0, none⟩ = some (.int .i64 a) ∧ wr.cell? ⟨g, 1, none⟩ = some (.int .i64 b) ∧ Below w.heap.size w wr)

set_option maxHeartbeats 1000000 in
theorem arcs_two (f : Int) (hf : f = 0 ∨ f = 1) (A : Option Addr) (cap : Nat) (a b : Int) (w : World) (h : SL w A 2 [a, b]) (ha : 0 ≤ a ∧ a < b ∧ b ≤ 1000000) :
    Calls Tryd.prog 75 #[.slice A 2 cap, .int .i64 f] w fun e w' => ∃ g c, e = .returned (.slice (some ⟨g, 0, none⟩) 1 c) ∧ w'.cell? ⟨g, 0, none⟩ = some (.int .i64 a) ∧ w'.cell? ⟨g, 1, none⟩ = some (.int .i64 b) ∧ Below w.heap.size w w' := by
  obtain ⟨a0, ab, bm⟩ := ha
  have hmin : min a b = a := Int.min_eq_left (by omega)
  have hmax : max a b = b := Int.max_eq_right (by omega)
  have hmin2 : min b a = a := Int.min_eq_right (by omega)
  have hmax2 : max b a = b := Int.max_eq_left (by omega)
  have HM := Lib.hid (And.intro (And.intro hmin hmax) (And.intro hmin2 hmax2))
  clear hmin hmax hmin2 hmax2
  obtain ⟨b0, off, x, rfl, hbs, hx, hc⟩ := h.at_ (k := 0) (by omega)
  obtain ⟨b1, off1, y, hA, _, hy, hd⟩ := h.at_ (k := 1) (by omega)
  obtain ⟨rfl, rfl⟩ : b0 = b1 ∧ off = off1 := by injection hA with hA; injection hA with e1 e2; exact ⟨e1, e2⟩
  obtain rfl : a = x := by injection hx
  obtain rfl : b = y := by injection hy
  go_enter Tryd.func75, Tryd.ntmps75
  go_wp2_with fail
  go_loopw [5, 6] (fun v i wr => ArcRel f a b w v i wr) (fun _ i _ => 4 - (intOf i).toNat)
  case atStart => exact .inl ⟨rfl, rfl, Below.refl _ _⟩
  case round =>
    rcases hrel with ⟨rfl, rfl, hbr⟩ | ⟨g, c, i, rfl, rfl, i2, i3, hg0, hg1, hbr⟩
    · have hc2 := (hbr.cell (p := ⟨b0, off + 0, none⟩) hbs).trans hc
      have hd2 := (hbr.cell (p := ⟨b0, off + 1, none⟩) hbs).trans hd
      rw [Nat.add_zero] at hc2
      clear hc hd hx hy h hA
      have HBR := Lib.hid hbr
      clear hbr
      rcases hf with rfl | rfl
      · go_wp2_with fail
        go_quiet (fail)
        clear hc2 hd2
        go_wp2_with (at_builtin; refine wpList_append_arc rfl _ _ rfl rfl wr.heap.size _ _ _ _ rfl (heap_alloc_new _ _) rfl rfl ?_)
        intro g cap2 w' q0 q1 hb'
        rw [HM.out.1.1] at q0
        rw [HM.out.1.2] at q1
        have HREL : Hid (ArcRel 0 a b w (.slice (some ⟨g, 0, none⟩) 1 cap2) (.int .i64 2) w') :=
          .inr ⟨g, cap2, 2, rfl, rfl, by omega, by omega, q0, q1, ((below_drewN HBR.out _).alloc HBR.out.size _).trans (hb'.mono (by have := HBR.out.size; simp; omega))⟩
        clear q0 q1 hb'
        go_wp2_with fail
        go_roundw
        case rel => exact HREL.out
        case measure => simp [intOf]
      · go_wp2_with fail
        go_quiet (fail)
        clear hc2 hd2
        go_wp2_with (at_builtin; refine wpList_append_arc rfl _ _ rfl rfl wr.heap.size _ _ _ _ rfl (heap_alloc_new _ _) rfl rfl ?_)
        intro g cap2 w' q0 q1 hb'
        rw [HM.out.2.1] at q0
        rw [HM.out.2.2] at q1
        have HREL : Hid (ArcRel 1 a b w (.slice (some ⟨g, 0, none⟩) 1 cap2) (.int .i64 3) w') :=
          .inr ⟨g, cap2, 3, rfl, rfl, by omega, by omega, q0, q1, ((below_drewN HBR.out _).alloc HBR.out.size _).trans (hb'.mono (by have := HBR.out.size; simp; omega))⟩
        clear q0 q1 hb'
        go_wp2_with fail
        go_roundw
        case rel => exact HREL.out
        case measure => simp [intOf]
    · go_wp2_with fail
      go_ret
      exact ⟨g, c, rfl, hg0, hg1, hbr⟩

end Go.Proofs.YtenomnkdfiojbaaDoor
