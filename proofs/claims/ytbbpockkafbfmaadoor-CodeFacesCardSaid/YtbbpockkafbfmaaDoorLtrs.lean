/-
  The walk of the reference's letters.
-/
import Derived.Test.YtbbpockkafbfmaaDoorRefDef
import Derived.Test.YtbbpockkafbfmaaDoorPlain
import Derived.Deep.RegionHeld3
namespace Go.Proofs.YtbbpockkafbfmaaDoor
open Go.RowKit

section
variable {P : Program} {ops : Array Oper} {Q : Exit → Act → World → Prop} {md : Region.Mode} {S : World → Prop} {fuel : Nat} {listed : Array Bool} {a : Act} {w : World}
theorem takeLW (i : Nat) (oi : Oper) (d : Option Tmp) (v : Value) (hy : ∀ w, S w → (execOp a.eval oi).run P w = .ok (.value v) w) (hS : S w) (h : wpAnyH P md ops Q S fuel (listed.setIfInBounds i true) (a.put d v) w)
    (hd : oi.dst = d := by rfl) (hw : Region.wanted oi (yielded ops a.tmps) = true := by rfl) (hi : ops[i]? = some oi := by rfl) (hs : Region.noSelect ops = true := by kernel_rfl) (hf : Region.free md ops listed i = true := by kernel_rfl)
    (hr : (Region.ready md ops listed).contains i = true := by kernel_rfl) (hQ : ∀ c a w, Q (.panic c) (a.put d v) w → Q (.panic c) a w := by exact fun _ _ _ h => h) : wpAnyH P md ops Q S (fuel + 1) listed a w := by
  subst hd
  exact wpAnyH_take hi hs hf hr hQ (.inl ⟨hw, hy⟩) hS h
theorem takeLU (i : Nat) (oi : Oper) (d : Option Tmp) (hS : S w) (h : wpAnyH P md ops Q S fuel (listed.setIfInBounds i true) (a.put d undef) w)
    (hd : oi.dst = d := by rfl) (hw : Region.wanted oi (yielded ops a.tmps) = false := by rfl) (hi : ops[i]? = some oi := by rfl) (hs : Region.noSelect ops = true := by kernel_rfl) (hf : Region.free md ops listed i = true := by kernel_rfl)
    (hr : (Region.ready md ops listed).contains i = true := by kernel_rfl) (hQ : ∀ c a w, Q (.panic c) (a.put d undef) w → Q (.panic c) a w := by exact fun _ _ _ h => h) : wpAnyH P md ops Q S (fuel + 1) listed a w := by
  subst hd
  exact wpAnyH_take hi hs hf hr hQ (.inr ⟨hw, rfl⟩) hS h
end
def ltO0 : Oper := { dst := some 130, op := Go.Op.fieldAddr 50 (Go.Operand.tmp 4) 1, type := 0, pos := "ref.go:79", after := #[], guard := none }
def ltO1 : Oper := { dst := some 131, op := Go.Op.load 3 (Go.Operand.tmp 130), type := 3, pos := "ref.go:79", after := #[{ on := 0, ground := Go.Ground.data }], guard := none }
def ltO2 : Oper := { dst := some 132, op := Go.Op.binOp Go.BinOp.neq 3 (Go.Operand.tmp 131) (Go.Operand.const (Go.Value.int Go.IntKind.i64 0)) 3, type := 4, pos := "ref.go:79", after := #[{ on := 1, ground := Go.Ground.data }], guard := none }
def ltO3 : Oper := { dst := some 133, op := Go.Op.move (Go.Operand.tmp 132), type := 4, pos := "ref.go:79", after := #[{ on := 2, ground := Go.Ground.data }], guard := none }
def ltO4 : Oper := { dst := some 134, op := Go.Op.fieldAddr 50 (Go.Operand.tmp 4) 2, type := 0, pos := "ref.go:79", after := #[{ on := 3, ground := Go.Ground.guard }], guard := some (3, false) }
def ltO5 : Oper := { dst := some 135, op := Go.Op.load 3 (Go.Operand.tmp 134), type := 3, pos := "ref.go:79", after := #[{ on := 4, ground := Go.Ground.data }, { on := 3, ground := Go.Ground.guard }], guard := some (3, false) }
def ltO6 : Oper := { dst := some 136, op := Go.Op.binOp Go.BinOp.neq 3 (Go.Operand.tmp 135) (Go.Operand.const (Go.Value.int Go.IntKind.i64 0)) 3, type := 4, pos := "ref.go:79", after := #[{ on := 5, ground := Go.Ground.data }, { on := 3, ground := Go.Ground.guard }], guard := some (3, false) }
def ltO7 : Oper := { dst := some 137, op := Go.Op.pick (Go.Operand.tmp 133) (Go.Operand.const (Go.Value.bool true)) (Go.Operand.tmp 136), type := 4, pos := "ref.go:79", after := #[{ on := 3, ground := Go.Ground.data }, { on := 6, ground := Go.Ground.data }], guard := none }
def ltO8 : Oper := { dst := some 138, op := Go.Op.move (Go.Operand.tmp 137), type := 4, pos := "ref.go:79", after := #[{ on := 7, ground := Go.Ground.data }, { on := 3, ground := Go.Ground.chain }], guard := none }
def ltO9 : Oper := { dst := some 139, op := Go.Op.fieldAddr 50 (Go.Operand.tmp 4) 4, type := 0, pos := "ref.go:79", after := #[{ on := 8, ground := Go.Ground.guard }], guard := some (8, false) }
def ltO10 : Oper := { dst := some 140, op := Go.Op.load 3 (Go.Operand.tmp 139), type := 3, pos := "ref.go:79", after := #[{ on := 9, ground := Go.Ground.data }, { on := 8, ground := Go.Ground.guard }], guard := some (8, false) }
def ltO11 : Oper := { dst := some 141, op := Go.Op.binOp Go.BinOp.neq 3 (Go.Operand.tmp 140) (Go.Operand.const (Go.Value.int Go.IntKind.i64 1)) 3, type := 4, pos := "ref.go:79", after := #[{ on := 10, ground := Go.Ground.data }, { on := 8, ground := Go.Ground.guard }], guard := some (8, false) }
def ltO12 : Oper := { dst := some 142, op := Go.Op.move (Go.Operand.tmp 141), type := 4, pos := "ref.go:79", after := #[{ on := 11, ground := Go.Ground.data }, { on := 8, ground := Go.Ground.chain }, { on := 8, ground := Go.Ground.guard }], guard := some (8, false) }
def ltO13 : Oper := { dst := some 143, op := Go.Op.fieldAddr 50 (Go.Operand.tmp 4) 4, type := 0, pos := "ref.go:79", after := #[{ on := 12, ground := Go.Ground.guard }], guard := some (12, true) }
def ltO14 : Oper := { dst := some 144, op := Go.Op.load 3 (Go.Operand.tmp 143), type := 3, pos := "ref.go:79", after := #[{ on := 13, ground := Go.Ground.data }, { on := 12, ground := Go.Ground.guard }], guard := some (12, true) }
def ltO15 : Oper := { dst := some 145, op := Go.Op.binOp Go.BinOp.neq 3 (Go.Operand.tmp 144) (Go.Operand.const (Go.Value.int Go.IntKind.i64 (-1))) 3, type := 4, pos := "ref.go:79", after := #[{ on := 14, ground := Go.Ground.data }, { on := 12, ground := Go.Ground.guard }], guard := some (12, true) }
def ltO16 : Oper := { dst := some 146, op := Go.Op.pick (Go.Operand.tmp 142) (Go.Operand.tmp 145) (Go.Operand.const (Go.Value.bool false)), type := 4, pos := "ref.go:79", after := #[{ on := 12, ground := Go.Ground.data }, { on := 15, ground := Go.Ground.data }, { on := 8, ground := Go.Ground.guard }], guard := some (8, false) }
def ltO17 : Oper := { dst := some 147, op := Go.Op.pick (Go.Operand.tmp 138) (Go.Operand.const (Go.Value.bool true)) (Go.Operand.tmp 146), type := 4, pos := "ref.go:79", after := #[{ on := 8, ground := Go.Ground.data }, { on := 16, ground := Go.Ground.data }], guard := none }
def ltO18 : Oper := { dst := some 148, op := Go.Op.move (Go.Operand.tmp 147), type := 4, pos := "ref.go:79", after := #[{ on := 17, ground := Go.Ground.data }, { on := 12, ground := Go.Ground.chain }], guard := none }
def ltO19 : Oper := { dst := some 149, op := Go.Op.fieldAddr 50 (Go.Operand.tmp 4) 3, type := 0, pos := "ref.go:79", after := #[{ on := 18, ground := Go.Ground.guard }], guard := some (18, false) }
def ltO20 : Oper := { dst := some 150, op := Go.Op.load 3 (Go.Operand.tmp 149), type := 3, pos := "ref.go:79", after := #[{ on := 19, ground := Go.Ground.data }, { on := 18, ground := Go.Ground.guard }], guard := some (18, false) }
def ltO21 : Oper := { dst := some 151, op := Go.Op.binOp Go.BinOp.lss 3 (Go.Operand.tmp 150) (Go.Operand.const (Go.Value.int Go.IntKind.i64 1)) 3, type := 4, pos := "ref.go:79", after := #[{ on := 20, ground := Go.Ground.data }, { on := 18, ground := Go.Ground.guard }], guard := some (18, false) }
def ltO22 : Oper := { dst := some 152, op := Go.Op.pick (Go.Operand.tmp 148) (Go.Operand.const (Go.Value.bool true)) (Go.Operand.tmp 151), type := 4, pos := "ref.go:79", after := #[{ on := 18, ground := Go.Ground.data }, { on := 21, ground := Go.Ground.data }], guard := none }
def ltO23 : Oper := { dst := some 153, op := Go.Op.move (Go.Operand.tmp 152), type := 4, pos := "ref.go:79", after := #[{ on := 22, ground := Go.Ground.data }, { on := 18, ground := Go.Ground.chain }], guard := none }
def ltO24 : Oper := { dst := some 154, op := Go.Op.fieldAddr 50 (Go.Operand.tmp 4) 3, type := 0, pos := "ref.go:79", after := #[{ on := 23, ground := Go.Ground.guard }], guard := some (23, false) }
def ltO25 : Oper := { dst := some 155, op := Go.Op.load 3 (Go.Operand.tmp 154), type := 3, pos := "ref.go:79", after := #[{ on := 24, ground := Go.Ground.data }, { on := 23, ground := Go.Ground.guard }], guard := some (23, false) }
def ltO26 : Oper := { dst := some 156, op := Go.Op.load 33 (Go.Operand.tmp 1), type := 33, pos := "ref.go:79", after := #[{ on := 23, ground := Go.Ground.guard }], guard := some (23, false) }
def ltO27 : Oper := { dst := some 158, op := Go.Op.binOp Go.BinOp.quo 3 (Go.Operand.tmp 157) (Go.Operand.const (Go.Value.int Go.IntKind.i64 2)) 3, type := 3, pos := "ref.go:79", after := #[{ on := 27, ground := Go.Ground.data }, { on := 23, ground := Go.Ground.guard }], guard := some (23, false) }
def ltO28 : Oper := { dst := some 159, op := Go.Op.binOp Go.BinOp.gtr 3 (Go.Operand.tmp 155) (Go.Operand.tmp 158) 3, type := 4, pos := "ref.go:79", after := #[{ on := 25, ground := Go.Ground.data }, { on := 28, ground := Go.Ground.data }, { on := 23, ground := Go.Ground.guard }], guard := some (23, false) }
def ltO29 : Oper := { dst := some 160, op := Go.Op.pick (Go.Operand.tmp 153) (Go.Operand.const (Go.Value.bool true)) (Go.Operand.tmp 159), type := 4, pos := "ref.go:79", after := #[{ on := 23, ground := Go.Ground.data }, { on := 29, ground := Go.Ground.data }], guard := none }
def ltO30 : Oper := { dst := some 161, op := Go.Op.move (Go.Operand.tmp 160), type := 4, pos := "ref.go:79", after := #[{ on := 30, ground := Go.Ground.data }, { on := 27, ground := Go.Ground.chain }], guard := none }
def ltO31 : Oper := { dst := some 162, op := Go.Op.move (Go.Operand.tmp 6), type := 3, pos := "ref.go:79", after := #[{ on := 31, ground := Go.Ground.guard }], guard := some (31, false) }
def ltO32 : Oper := { dst := some 163, op := Go.Op.binOp Go.BinOp.neq 3 (Go.Operand.tmp 162) (Go.Operand.const (Go.Value.int Go.IntKind.i64 1)) 3, type := 4, pos := "ref.go:79", after := #[{ on := 32, ground := Go.Ground.data }, { on := 31, ground := Go.Ground.guard }], guard := some (31, false) }
def ltO33 : Oper := { dst := some 164, op := Go.Op.pick (Go.Operand.tmp 161) (Go.Operand.const (Go.Value.bool true)) (Go.Operand.tmp 163), type := 4, pos := "ref.go:79", after := #[{ on := 31, ground := Go.Ground.data }, { on := 33, ground := Go.Ground.data }], guard := none }
def ltO34 : Oper := { dst := some 165, op := Go.Op.move (Go.Operand.tmp 164), type := 4, pos := "ref.go:79", after := #[{ on := 34, ground := Go.Ground.data }, { on := 31, ground := Go.Ground.chain }], guard := none }
def ltO35 : Oper := { dst := some 166, op := Go.Op.load 33 (Go.Operand.tmp 1), type := 33, pos := "ref.go:79", after := #[{ on := 35, ground := Go.Ground.guard }], guard := some (35, false) }
def ltO36 : Oper := { dst := some 167, op := Go.Op.fieldAddr 50 (Go.Operand.tmp 4) 3, type := 0, pos := "ref.go:79", after := #[{ on := 35, ground := Go.Ground.guard }], guard := some (35, false) }
def ltO37 : Oper := { dst := some 168, op := Go.Op.load 3 (Go.Operand.tmp 167), type := 3, pos := "ref.go:79", after := #[{ on := 37, ground := Go.Ground.data }, { on := 35, ground := Go.Ground.guard }], guard := some (35, false) }
def ltO38 : Oper := { dst := some 169, op := Go.Op.call { callee := Go.Callee.value (Go.Operand.func 70), args := #[Go.Operand.tmp 166, Go.Operand.tmp 168], argTypes := #[33, 3] }, type := 3, pos := "ref.go:79", after := #[{ on := 36, ground := Go.Ground.data }, { on := 38, ground := Go.Ground.data }, { on := 35, ground := Go.Ground.chain }, { on := 35, ground := Go.Ground.guard }], guard := some (35, false) }
def ltO39 : Oper := { dst := some 170, op := Go.Op.binOp Go.BinOp.neq 3 (Go.Operand.tmp 169) (Go.Operand.const (Go.Value.int Go.IntKind.i64 2)) 3, type := 4, pos := "ref.go:79", after := #[{ on := 39, ground := Go.Ground.data }, { on := 35, ground := Go.Ground.guard }], guard := some (35, false) }
def ltO40 : Oper := { dst := some 171, op := Go.Op.pick (Go.Operand.tmp 165) (Go.Operand.const (Go.Value.bool true)) (Go.Operand.tmp 170), type := 4, pos := "ref.go:79", after := #[{ on := 35, ground := Go.Ground.data }, { on := 40, ground := Go.Ground.data }], guard := none }
def LtsPost (f : Int) (ls : List Lt) (w : World) (e : Ending) (w' : World) : Prop := ∃ b, e = .returned (.bool b) ∧ (b = true ↔ ∀ l, l ∈ ls → refL f ls l) ∧ Below w.heap.size w w'
theorem LtsPost.yes {f : Int} {ls : List Lt} {w w' : World} (h : ∀ l, l ∈ ls → refL f ls l) (hb : Below w.heap.size w w') : LtsPost f ls w (.returned (.bool true)) w' := ⟨true, rfl, ⟨fun _ => h, fun _ => rfl⟩, hb⟩
theorem LtsPost.no {f : Int} {ls : List Lt} {l : Lt} {w w' : World} (hm : l ∈ ls) (h : ¬ refL f ls l) (hb : Below w.heap.size w w') : LtsPost f ls w (.returned (.bool false)) w' :=
  ⟨false, rfl, ⟨fun c => absurd c (by decide), fun c => absurd (c l hm) h⟩, hb⟩
def LtsRel (f : Int) (ls : List Lt) (n : Nat) (w : World) (i : Value) (wr : World) : Prop := ∃ j : Nat, j ≤ n ∧ i = .int .i64 j ∧ (∀ k l, k < j → ls[k]? = some l → refL f ls l) ∧ Below w.heap.size w wr
def LtsIn (ls : List Lt) (l : Lt) (n : Nat) (w : World) (s p i : Value) (wr : World) : Prop := ∃ j : Nat, j ≤ n ∧ i = .int .i64 j ∧ s = .int .i64 (cntB (sameP l) (ls.take j)) ∧ p = .int .i64 (cntB (pairP l) (ls.take j)) ∧ Below w.heap.size w wr

theorem lts_cases (o l : Lt) : (o.kind ≠ l.kind ∧ sameP l o = false ∧ pairP l o = false) ∨
    (o.kind = l.kind ∧ ((o.gate ≠ l.gate ∧ sameP l o = false) ∨ (o.gate = l.gate ∧ o.rank ≠ l.rank ∧ sameP l o = false) ∨ (o.gate = l.gate ∧ o.rank = l.rank ∧ sameP l o = true)) ∧
      ((o.id ≠ l.id ∧ pairP l o = false) ∨ (o.id = l.id ∧ o.sign ≠ l.sign ∧ pairP l o = false) ∨ (o.id = l.id ∧ o.sign = l.sign ∧ o.over = l.over ∧ pairP l o = false) ∨ (o.id = l.id ∧ o.sign = l.sign ∧ o.over ≠ l.over ∧ pairP l o = true))) := by
  by_cases h1 : o.kind = l.kind
  · refine .inr ⟨h1, ?_, ?_⟩
    · by_cases h2 : o.gate = l.gate
      · by_cases h3 : o.rank = l.rank
        · exact .inr (.inr ⟨h2, h3, by simp [sameP, h1, h2, h3]⟩)
        · exact .inr (.inl ⟨h2, h3, by simp [sameP, h3]⟩)
      · exact .inl ⟨h2, by simp [sameP, h2]⟩
    · by_cases h2 : o.id = l.id
      · by_cases h3 : o.sign = l.sign
        · by_cases h4 : o.over = l.over
          · exact .inr (.inr (.inl ⟨h2, h3, h4, by simp [pairP, h4]⟩))
          · exact .inr (.inr (.inr ⟨h2, h3, h4, by simp [pairP, h1, h2, h3, h4]⟩))
        · exact .inr (.inl ⟨h2, h3, by simp [pairP, h3]⟩)
      · exact .inl ⟨h2, by simp [pairP, h2]⟩
  · exact .inl ⟨h1, by simp [sameP, h1], by simp [pairP, h1]⟩

theorem wrapL {x : Int} (h1 : -9223372036854775808 ≤ x) (h2 : x ≤ 9223372036854775807) : IntKind.i64.wrap x = x := by
  simp only [IntKind.wrap, IntKind.bits, IntKind.signed]
  simp
  omega
/-- What the conditions of a letter read. -/
def LtsS (P : Nat) (f : Int) (vL : Value) (L0 : Nat) (vg vr vi vs : Int) (vo : Bool) (w w' : World) : Prop :=
  w'.cell? ⟨P, 0, none⟩ = some (.int .i64 f) ∧ w'.cell? ⟨P, 1, none⟩ = some vL ∧ w'.cell? ⟨L0, 1, none⟩ = some (.int .i64 vg) ∧ w'.cell? ⟨L0, 2, none⟩ = some (.int .i64 vr) ∧ w'.cell? ⟨L0, 3, none⟩ = some (.int .i64 vi) ∧
    w'.cell? ⟨L0, 4, none⟩ = some (.int .i64 vs) ∧ w'.cell? ⟨L0, 5, none⟩ = some (.bool vo) ∧ Below w.heap.size w w'
theorem LtsS.of {P : Nat} {f : Int} {vL : Value} {L0 : Nat} {vg vr vi vs : Int} {vo : Bool} {w w' : World} (hP : P < w.heap.size) (hL : L0 < w.heap.size) (h : LtsS P f vL L0 vg vr vi vs vo w w) (hb : Below w.heap.size w w') : LtsS P f vL L0 vg vr vi vs vo w w' := by
  obtain ⟨h1, h2, h3, h4, h5, h6, h7, _⟩ := h
  have e : ∀ q x, q < w.heap.size → w'.cell? ⟨q, x, none⟩ = w.cell? ⟨q, x, none⟩ := fun q x hq => hb.cell (p := ⟨q, x, none⟩) hq
  exact ⟨(e _ _ hP).trans h1, (e _ _ hP).trans h2, (e _ _ hL).trans h3, (e _ _ hL).trans h4, (e _ _ hL).trans h5, (e _ _ hL).trans h6, (e _ _ hL).trans h7, hb⟩
theorem LtsS.last {P : Nat} {f : Int} {vL : Value} {L0 : Nat} {vg vr vi vs : Int} {vo : Bool} {w w' : World} (h : LtsS P f vL L0 vg vr vi vs vo w w') : Below w.heap.size w w' := h.2.2.2.2.2.2.2

set_option maxHeartbeats 16000000 in
set_option maxRecDepth 100000 in
theorem letters_calls (f : Int) (A : Option Addr) (n cap : Nat) (ls : List Lt) (w : World) (h : LS w A n ls) (hn : n ≤ 1000000) :
    Calls Tryd.prog 36 #[.agg #[.int .i64 f, .slice A n cap]] w (LtsPost f ls w) := by
  have HL := Lib.hid h.1
  have HLS := Lib.hid h
  clear h
  go_enter Tryd.func36, Tryd.ntmps36
  go_wp2_with fail
  have HX := Lib.hid (Box.made w f A n cap 33)
  have HB0 : Hid (Below w.heap.size w (w.alloc (.cells #[.int .i64 f, .slice A n cap] 33))) := (Below.refl _ _).alloc (Nat.le_refl _) _
  obtain ⟨W0, hW0⟩ : ∃ W0, W0 = w.alloc (.cells #[.int .i64 f, .slice A n cap] 33) := ⟨_, rfl⟩
  obtain ⟨P, hP⟩ : ∃ P, P = w.heap.size := ⟨_, rfl⟩
  rw [← hW0] at HX HB0 ⊢
  rw [← hP] at HX ⊢
  clear hW0 hP
  go_loopw [3] (fun iv wr => LtsRel f ls n W0 iv wr) (fun iv _ => n - (intOf iv).toNat)
  case atStart => exact ⟨0, Nat.zero_le _, rfl, fun k l hk => by omega, Below.refl _ _⟩
  case round =>
    obtain ⟨j, hj, rfl, hall, hb⟩ := hrel
    have HALL := Lib.hid hall
    clear hall
    have HB := Lib.hid hb
    obtain ⟨hP, x0, x1⟩ := HX.out.below hb
    by_cases hlt : j < n
    · obtain ⟨b, off, l, rfl, hbl, hl, c0, c1, c2, c3, c4, c5⟩ := ((HLS.out.below HB0.out).below hb).at_ (k := j) (by omega)
      have hj1 : (j : Int) < n := by omega
      have HLL := Lib.hid hl
      clear hl hb
      go_wp2_with fail
      have HM := Lib.hid (lt_made wr l.kind l.gate l.rank l.id l.sign l.over 50)
      have HB1 : Hid (Below wr.heap.size wr (wr.alloc (.cells #[.int .i64 l.kind, .int .i64 l.gate, .int .i64 l.rank, .int .i64 l.id, .int .i64 l.sign, .bool l.over] 50))) := (Below.refl _ _).alloc (Nat.le_refl _) _
      obtain ⟨W1, hW1⟩ : ∃ W1, W1 = wr.alloc (.cells #[.int .i64 l.kind, .int .i64 l.gate, .int .i64 l.rank, .int .i64 l.id, .int .i64 l.sign, .bool l.over] 50) := ⟨_, rfl⟩
      obtain ⟨L0, hL0⟩ : ∃ L0, L0 = wr.heap.size := ⟨_, rfl⟩
      rw [← hW1] at HM HB1 ⊢
      rw [← hL0] at HM ⊢
      have HB2 : Hid (Below W0.heap.size W0 W1) := HB.out.trans (HB1.out.mono HB.out.size)
      clear hW1 hL0 c0 c1 c2 c3 c4 c5 x0 x1 hP
      go_loopw [5, 6, 7] (fun sv pv iv wx => LtsIn ls l n W1 sv pv iv wx) (fun _ _ iv _ => n - (intOf iv).toNat)
      case atStart => exact ⟨0, Nat.zero_le _, rfl, rfl, rfl, Below.refl _ _⟩
      case round =>
        obtain ⟨q, hq, rfl, rfl, rfl, hbx⟩ := hrel
        have HBX := Lib.hid hbx
        obtain ⟨hP, x0, x1⟩ := HX.out.below (HB2.out.trans (hbx.mono HB2.out.size))
        obtain ⟨y0, y1, y2, y3, y4, y5⟩ := HM.out.2.below HM.out.1 hbx
        simp only [Nat.zero_add] at y0 y1 y2 y3 y4 y5
        have hL0 : L0 < _ := Nat.lt_of_lt_of_le HM.out.1 hbx.size
        have b0 := cntB_nonneg (sameP l) (ls.take q)
        have b1 := cntB_take_le (sameP l) ls q
        have b2 := cntB_nonneg (pairP l) (ls.take q)
        have b3 := cntB_take_le (pairP l) ls q
        obtain ⟨cs, hcs⟩ : ∃ c, cntB (sameP l) (ls.take q) = c := ⟨_, rfl⟩
        obtain ⟨cp, hcp⟩ : ∃ c, cntB (pairP l) (ls.take q) = c := ⟨_, rfl⟩
        rw [hcs] at b0 b1 ⊢
        rw [hcp] at b2 b3 ⊢
        by_cases hqn : q < n
        · obtain ⟨b', off', o, hA', hbl', ho, d0, d1, d2, d3, d4, d5⟩ := ((HLS.out.below HB0.out).below (HB2.out.trans (hbx.mono HB2.out.size))).at_ (k := q) hqn
          injection hA' with hA'
          injection hA' with e1 e2
          subst e1
          subst e2
          have hq1 : (q : Int) < n := by omega
          have HS := Lib.hid (cntB_succ (p := sameP l) ho)
          have HP := Lib.hid (cntB_succ (p := pairP l) ho)
          rw [hcs] at HS
          rw [hcp] at HP
          clear ho hcs hcp hbx
          have fin : ∀ wx', Below wr.heap.size wr wx' → ∀ s' p' : Int, s' = cs + (if sameP l o = true then 1 else 0) → p' = cp + (if pairP l o = true then 1 else 0) → LtsIn ls l n W1 (.int .i64 s') (.int .i64 p') (.int .i64 ((q : Int) + 1)) wx' := by
            intro wx' hb' s' p' e1 e2
            exact ⟨q + 1, by omega, by rw [Int.natCast_add]; rfl, by rw [HS.out, e1], by rw [HP.out, e2], HBX.out.trans (hb'.mono HBX.out.size)⟩
          have FIN := Lib.hid fin
          clear fin
          have HBW : Hid (∀ ob, Below wr.heap.size wr (wr.alloc ob)) := fun ob => (Below.refl _ _).alloc (Nat.le_refl _) _
          rcases lts_cases o l with ⟨g1, hs, hp⟩ | ⟨g1, g2, g3⟩
          · have e1 : (o.kind == l.kind) = false := by rw [beq_eq_false_iff_ne]; exact g1
            have HF := Lib.hid (And.intro hs hp)
            clear g1 hs hp
            go_wp2_with fail
            go_roundw
            case rel => exact FIN.out _ (HBW.out _) _ _ (by rw [HF.out.1]; simp) (by rw [HF.out.2]; simp)
            case measure => simp [intOf]; omega
          · have e1 : (o.kind == l.kind) = true := by rw [beq_iff_eq]; exact g1
            clear g1
            rcases g2 with ⟨g2, hs⟩ | ⟨g2, g2', hs⟩ | ⟨g2, g2', hs⟩
            · have e2 : (o.gate == l.gate) = false := by rw [beq_eq_false_iff_ne]; exact g2
              have HFS := Lib.hid hs
              clear g2 hs
              as_aux_lemma =>
              rcases g3 with ⟨g3, hp⟩ | ⟨g3, g4, hp⟩ | ⟨g3, g4, g5, hp⟩ | ⟨g3, g4, g5, hp⟩
              · have f3 : (o.id == l.id) = false := by rw [beq_eq_false_iff_ne]; exact g3
                have HFP := Lib.hid hp
                clear g3 hp
                go_wp2_with fail
                go_roundw
                case rel => exact FIN.out _ (HBW.out _) _ _ (by rw [HFS.out]; simp) (by rw [HFP.out]; simp)
                case measure => simp [intOf]; omega
              · have f3 : (o.id == l.id) = true := by rw [beq_iff_eq]; exact g3
                have f4 : (o.sign == l.sign) = false := by rw [beq_eq_false_iff_ne]; exact g4
                have HFP := Lib.hid hp
                clear g3 g4 hp
                go_wp2_with fail
                go_roundw
                case rel => exact FIN.out _ (HBW.out _) _ _ (by rw [HFS.out]; simp) (by rw [HFP.out]; simp)
                case measure => simp [intOf]; omega
              · have f3 : (o.id == l.id) = true := by rw [beq_iff_eq]; exact g3
                have f4 : (o.sign == l.sign) = true := by rw [beq_iff_eq]; exact g4
                have f5 : (!o.over == l.over) = false := by rw [g5]; simp
                have HFP := Lib.hid hp
                clear g3 g4 g5 hp
                go_wp2_with fail
                go_roundw
                case rel => exact FIN.out _ (HBW.out _) _ _ (by rw [HFS.out]; simp) (by rw [HFP.out]; simp)
                case measure => simp [intOf]; omega
              · have f3 : (o.id == l.id) = true := by rw [beq_iff_eq]; exact g3
                have f4 : (o.sign == l.sign) = true := by rw [beq_iff_eq]; exact g4
                have f5 : (!o.over == l.over) = true := by simpa using g5
                have HFP := Lib.hid hp
                clear g3 g4 g5 hp
                go_wp2_with fail
                go_roundw
                case rel => exact FIN.out _ (HBW.out _) _ _ (by rw [HFS.out]; simp) (by rw [HFP.out]; simp)
                case measure => simp [intOf]; omega
            · have e2 : (o.gate == l.gate) = true := by rw [beq_iff_eq]; exact g2
              have e3 : (o.rank == l.rank) = false := by rw [beq_eq_false_iff_ne]; exact g2'
              have HFS := Lib.hid hs
              clear g2 g2' hs
              as_aux_lemma =>
              rcases g3 with ⟨g3, hp⟩ | ⟨g3, g4, hp⟩ | ⟨g3, g4, g5, hp⟩ | ⟨g3, g4, g5, hp⟩
              · have f3 : (o.id == l.id) = false := by rw [beq_eq_false_iff_ne]; exact g3
                have HFP := Lib.hid hp
                clear g3 hp
                go_wp2_with fail
                go_roundw
                case rel => exact FIN.out _ (HBW.out _) _ _ (by rw [HFS.out]; simp) (by rw [HFP.out]; simp)
                case measure => simp [intOf]; omega
              · have f3 : (o.id == l.id) = true := by rw [beq_iff_eq]; exact g3
                have f4 : (o.sign == l.sign) = false := by rw [beq_eq_false_iff_ne]; exact g4
                have HFP := Lib.hid hp
                clear g3 g4 hp
                go_wp2_with fail
                go_roundw
                case rel => exact FIN.out _ (HBW.out _) _ _ (by rw [HFS.out]; simp) (by rw [HFP.out]; simp)
                case measure => simp [intOf]; omega
              · have f3 : (o.id == l.id) = true := by rw [beq_iff_eq]; exact g3
                have f4 : (o.sign == l.sign) = true := by rw [beq_iff_eq]; exact g4
                have f5 : (!o.over == l.over) = false := by rw [g5]; simp
                have HFP := Lib.hid hp
                clear g3 g4 g5 hp
                go_wp2_with fail
                go_roundw
                case rel => exact FIN.out _ (HBW.out _) _ _ (by rw [HFS.out]; simp) (by rw [HFP.out]; simp)
                case measure => simp [intOf]; omega
              · have f3 : (o.id == l.id) = true := by rw [beq_iff_eq]; exact g3
                have f4 : (o.sign == l.sign) = true := by rw [beq_iff_eq]; exact g4
                have f5 : (!o.over == l.over) = true := by simpa using g5
                have HFP := Lib.hid hp
                clear g3 g4 g5 hp
                go_wp2_with fail
                go_roundw
                case rel => exact FIN.out _ (HBW.out _) _ _ (by rw [HFS.out]; simp) (by rw [HFP.out]; simp)
                case measure => simp [intOf]; omega
            · have e2 : (o.gate == l.gate) = true := by rw [beq_iff_eq]; exact g2
              have e3 : (o.rank == l.rank) = true := by rw [beq_iff_eq]; exact g2'
              have HFS := Lib.hid hs
              clear g2 g2' hs
              as_aux_lemma =>
              rcases g3 with ⟨g3, hp⟩ | ⟨g3, g4, hp⟩ | ⟨g3, g4, g5, hp⟩ | ⟨g3, g4, g5, hp⟩
              · have f3 : (o.id == l.id) = false := by rw [beq_eq_false_iff_ne]; exact g3
                have HFP := Lib.hid hp
                clear g3 hp
                go_wp2_with fail
                go_roundw
                case rel => exact FIN.out _ (HBW.out _) _ _ (by rw [HFS.out]; simp) (by rw [HFP.out]; simp)
                case measure => simp [intOf]; omega
              · have f3 : (o.id == l.id) = true := by rw [beq_iff_eq]; exact g3
                have f4 : (o.sign == l.sign) = false := by rw [beq_eq_false_iff_ne]; exact g4
                have HFP := Lib.hid hp
                clear g3 g4 hp
                go_wp2_with fail
                go_roundw
                case rel => exact FIN.out _ (HBW.out _) _ _ (by rw [HFS.out]; simp) (by rw [HFP.out]; simp)
                case measure => simp [intOf]; omega
              · have f3 : (o.id == l.id) = true := by rw [beq_iff_eq]; exact g3
                have f4 : (o.sign == l.sign) = true := by rw [beq_iff_eq]; exact g4
                have f5 : (!o.over == l.over) = false := by rw [g5]; simp
                have HFP := Lib.hid hp
                clear g3 g4 g5 hp
                go_wp2_with fail
                go_roundw
                case rel => exact FIN.out _ (HBW.out _) _ _ (by rw [HFS.out]; simp) (by rw [HFP.out]; simp)
                case measure => simp [intOf]; omega
              · have f3 : (o.id == l.id) = true := by rw [beq_iff_eq]; exact g3
                have f4 : (o.sign == l.sign) = true := by rw [beq_iff_eq]; exact g4
                have f5 : (!o.over == l.over) = true := by simpa using g5
                have HFP := Lib.hid hp
                clear g3 g4 g5 hp
                go_wp2_with fail
                go_roundw
                case rel => exact FIN.out _ (HBW.out _) _ _ (by rw [HFS.out]; simp) (by rw [HFP.out]; simp)
                case measure => simp [intOf]; omega
        · obtain rfl : q = n := by omega
          rw [List.take_of_length_le (by rw [HL.out]; omega)] at hcs hcp
          have HLT := Lib.hid hlt
          have HBY : Hid (Below W0.heap.size W0 wr) := HB2.out.trans (hbx.mono HB2.out.size)
          have HBZ : Hid (Below w.heap.size w wr) := HB0.out.trans (HBY.out.mono HB0.out.size)
          have NO : Hid (¬ refL f ls l → ∀ w', Below wr.heap.size wr w' → LtsPost f ls w (.returned (.bool false)) w') := fun hno w' hb' => LtsPost.no (List.mem_of_getElem? HLL.out) hno (HBZ.out.trans (hb'.mono HBZ.out.size))
          have YES : Hid (refL f ls l → ∀ w', Below wr.heap.size wr w' → LtsRel f ls q W0 (.int .i64 ((j : Int) + 1)) w') := fun hyes w' hb' => ⟨j + 1, by omega, by rw [Int.natCast_add]; rfl, fun k l2 hk hl2 => by
            by_cases e : k = j
            · subst e; rw [HLL.out] at hl2; injection hl2 with hl2; rw [← hl2]; exact hyes
            · exact HALL.out k l2 (by omega) hl2, HBY.out.trans (hb'.mono HBY.out.size)⟩
          have BQ : Hid (∀ m, Below wr.heap.size wr (wr.drewN m)) := fun m => below_drewN (Below.refl _ _) m
          have HCS := Lib.hid hcs
          have HCP := Lib.hid hcp
          have HLW := Lib.hid (HLS.out.below HBZ.out)
          clear hcs hcp hbx
          by_cases k1 : l.kind = 1
          · have e1 : (l.kind == 1) = true := by rw [beq_iff_eq]; exact k1
            have HK := Lib.hid k1
            have hno : Hid (refL f ls l ↔ (l.id = 0 ∧ l.sign = 0 ∧ l.over = false ∧ 0 ≤ l.gate ∧ l.gate ≤ f ∧ 1 ≤ l.rank ∧ l.rank ≤ cntB (inGate l.gate) ls ∧ cntB (sameP l) ls = 1)) := by
              unfold Hid refL
              constructor
              · rintro (c | c)
                · exact c.2
                · rw [c.1] at k1; cases k1
              · exact fun c => .inl ⟨k1, c⟩
            have HGI : Hid (∀ W, Below wr.heap.size wr W → Calls Tryd.prog 69 #[.agg #[.int .i64 f, .slice (some ⟨b, off, none⟩) q cap], .int .i64 l.gate] W fun e w' => e = .returned (.int .i64 (cntB (inGate l.gate) ls)) ∧ Below W.heap.size W w') :=
              fun W hW => in_calls f _ q cap ls l.gate W (HLW.out.below hW) hn
            obtain ⟨gi, hgi⟩ : ∃ gi, cntB (inGate l.gate) ls = gi := ⟨_, rfl⟩
            rw [hgi] at hno HGI
            rw [HCS.out] at hno
            clear k1 hgi
            have hcs : (l.id ≠ 0) ∨ (l.id = 0 ∧ l.sign ≠ 0) ∨ (l.id = 0 ∧ l.sign = 0 ∧ l.over = true) ∨ (l.id = 0 ∧ l.sign = 0 ∧ l.over = false ∧ l.gate < 0) ∨ (l.id = 0 ∧ l.sign = 0 ∧ l.over = false ∧ ¬ l.gate < 0 ∧ f < l.gate) ∨
              (l.id = 0 ∧ l.sign = 0 ∧ l.over = false ∧ ¬ l.gate < 0 ∧ ¬ f < l.gate ∧ l.rank < 1) ∨ (l.id = 0 ∧ l.sign = 0 ∧ l.over = false ∧ ¬ l.gate < 0 ∧ ¬ f < l.gate ∧ ¬ l.rank < 1 ∧ gi < l.rank) ∨
              (l.id = 0 ∧ l.sign = 0 ∧ l.over = false ∧ ¬ l.gate < 0 ∧ ¬ f < l.gate ∧ ¬ l.rank < 1 ∧ ¬ gi < l.rank ∧ cs ≠ 1) ∨ (l.id = 0 ∧ l.sign = 0 ∧ l.over = false ∧ ¬ l.gate < 0 ∧ ¬ f < l.gate ∧ ¬ l.rank < 1 ∧ ¬ gi < l.rank ∧ cs = 1) := by
              by_cases q1 : l.id = 0
              · by_cases q2 : l.sign = 0
                · by_cases q3 : l.over = false
                  · by_cases q4 : l.gate < 0
                    · exact .inr (.inr (.inr (.inl ⟨q1, q2, q3, q4⟩)))
                    · by_cases q5 : f < l.gate
                      · exact .inr (.inr (.inr (.inr (.inl ⟨q1, q2, q3, q4, q5⟩))))
                      · by_cases q6 : l.rank < 1
                        · exact .inr (.inr (.inr (.inr (.inr (.inl ⟨q1, q2, q3, q4, q5, q6⟩)))))
                        · by_cases q7 : gi < l.rank
                          · exact .inr (.inr (.inr (.inr (.inr (.inr (.inl ⟨q1, q2, q3, q4, q5, q6, q7⟩))))))
                          · by_cases q8 : cs = 1
                            · exact .inr (.inr (.inr (.inr (.inr (.inr (.inr (.inr ⟨q1, q2, q3, q4, q5, q6, q7, q8⟩)))))))
                            · exact .inr (.inr (.inr (.inr (.inr (.inr (.inr (.inl ⟨q1, q2, q3, q4, q5, q6, q7, q8⟩)))))))
                  · exact .inr (.inr (.inl ⟨q1, q2, by simpa using q3⟩))
                · exact .inr (.inl ⟨q1, q2⟩)
              · exact .inl q1
            rcases hcs with g1 | ⟨g1, g2⟩ | ⟨g1, g2, g3⟩ | ⟨g1, g2, g3, g4⟩ | ⟨g1, g2, g3, g4, g5⟩ | ⟨g1, g2, g3, g4, g5, g6⟩ | ⟨g1, g2, g3, g4, g5, g6, g7⟩ | ⟨g1, g2, g3, g4, g5, g6, g7, g8⟩ | ⟨g1, g2, g3, g4, g5, g6, g7, g8⟩
            · as_aux_lemma =>
              have t1 : (l.id != 0) = true := by rw [bne_iff_ne]; exact g1
              have N := Lib.hid (NO.out (fun c => g1 (hno.out.1 c).1))
              clear NO YES hno
              go_wp2_with fail
              go_quiet (fail)
              go_wp2_with fail
              go_ret
              exact N.out _ (BQ.out _)
            · as_aux_lemma =>
              have t1 : (l.id != 0) = false := by rw [bne_eq_false_iff_eq]; exact g1
              have t2 : (l.sign != 0) = true := by rw [bne_iff_ne]; exact g2
              have N := Lib.hid (NO.out (fun c => g2 (hno.out.1 c).2.1))
              clear NO YES hno
              go_wp2_with fail
              go_quiet (fail)
              go_wp2_with fail
              go_ret
              exact N.out _ (BQ.out _)
            · as_aux_lemma =>
              rw [g1] at y3
              rw [g2] at y4
              rw [g3] at y5
              have N := Lib.hid (NO.out (fun c => by have := (hno.out.1 c).2.2.1; rw [g3] at this; cases this))
              clear NO YES hno
              go_wp2_with fail
              go_quiet (fail)
              go_wp2_with fail
              go_ret
              exact N.out _ (BQ.out _)
            · as_aux_lemma =>
              rw [g1] at y3
              rw [g2] at y4
              rw [g3] at y5
              have t4 : decide (l.gate < 0) = true := by rw [decide_eq_true_iff]; exact g4
              have N := Lib.hid (NO.out (fun c => by have := (hno.out.1 c).2.2.2.1; omega))
              clear g1 g2 g3 g4
              clear NO YES hno
              go_wp2_with fail
              go_quiet (fail)
              go_wp2_with fail
              go_ret
              exact N.out _ (BQ.out _)
            · as_aux_lemma =>
              rw [g1] at y3
              rw [g2] at y4
              rw [g3] at y5
              have t4 : decide (l.gate < 0) = false := by rw [decide_eq_false_iff_not]; exact g4
              have t5 : decide (f < l.gate) = true := by rw [decide_eq_true_iff]; exact g5
              have N := Lib.hid (NO.out (fun c => by have := (hno.out.1 c).2.2.2.2.1; omega))
              clear g1 g2 g3 g4 g5
              clear NO YES hno
              go_wp2_with fail
              go_quiet (fail)
              go_wp2_with fail
              go_ret
              exact N.out _ (BQ.out _)
            · as_aux_lemma =>
              rw [g1] at y3
              rw [g2] at y4
              rw [g3] at y5
              have t4 : decide (l.gate < 0) = false := by rw [decide_eq_false_iff_not]; exact g4
              have t5 : decide (f < l.gate) = false := by rw [decide_eq_false_iff_not]; exact g5
              have t6 : decide (l.rank < 1) = true := by rw [decide_eq_true_iff]; exact g6
              have N := Lib.hid (NO.out (fun c => by have := (hno.out.1 c).2.2.2.2.2.1; omega))
              clear g1 g2 g3 g4 g5 g6
              clear NO YES hno
              go_wp2_with fail
              go_quiet (fail)
              go_wp2_with fail
              go_ret
              exact N.out _ (BQ.out _)
            · as_aux_lemma =>
              rw [g1] at y3
              rw [g2] at y4
              rw [g3] at y5
              have t4 : decide (l.gate < 0) = false := by rw [decide_eq_false_iff_not]; exact g4
              have t5 : decide (f < l.gate) = false := by rw [decide_eq_false_iff_not]; exact g5
              have t6 : decide (l.rank < 1) = false := by rw [decide_eq_false_iff_not]; exact g6
              have t7 : decide (gi < l.rank) = true := by rw [decide_eq_true_iff]; exact g7
              have N := Lib.hid (NO.out (fun c => by have := (hno.out.1 c).2.2.2.2.2.2.1; omega))
              have HS1 : Hid (LtsS P f (.slice (some ⟨b, off, none⟩) q cap) L0 (l.gate) (l.rank) (0) (0) (false) wr wr) := ⟨x0, x1, y1, y2, y3, y4, y5, Below.refl _ _⟩
              clear NO YES hno
              clear g1 g2 g3 g4 g5 g6 g7
              go_wp2_with fail
              first | go_region_held (fun w' => w'.cell? ⟨P, 0, none⟩ = some (.int .i64 f) ∧ w'.cell? ⟨P, 1, none⟩ = some (.slice (some ⟨b, off, none⟩) q cap) ∧ w'.cell? ⟨L0, 1, none⟩ = some (.int .i64 l.gate) ∧ w'.cell? ⟨L0, 2, none⟩ = some (.int .i64 l.rank) ∧ w'.cell? ⟨L0, 3, none⟩ = some (.int .i64 0) ∧ w'.cell? ⟨L0, 4, none⟩ = some (.int .i64 0) ∧ w'.cell? ⟨L0, 5, none⟩ = some (.bool false) ∧ Below wr.heap.size wr w')
                (first | exact LtsS.of hP hL0 HS1.out (Below.refl _ _).drew | assumption | exact LtsS.of hP hL0 HS1.out ((LtsS.last (P := P) (f := f) (vL := .slice (some ⟨b, off, none⟩) q cap) (L0 := L0) (vg := l.gate) (vr := l.rank) (vi := 0) (vs := 0) (vo := false) (by assumption)).trans (hbw.mono (LtsS.last (P := P) (f := f) (vL := .slice (some ⟨b, off, none⟩) q cap) (L0 := L0) (vg := l.gate) (vr := l.rank) (vi := 0) (vs := 0) (vo := false) (by assumption)).size)))
                (first
                  | (go_at_call 69; refine (HGI.out _ ?hbx).mono ?_; (case hbx => exact (LtsS.last (P := P) (f := f) (vL := .slice (some ⟨b, off, none⟩) q cap) (L0 := L0) (vg := l.gate) (vr := l.rank) (vi := 0) (vs := 0) (vo := false) (by assumption))); rintro e w2 ⟨rfl, hbw⟩)) | fail
              have hS : LtsS P f (.slice (some ⟨b, off, none⟩) q cap) L0 (l.gate) (l.rank) (0) (0) (false) wr w2 := by assumption
              have HSS := Lib.hid hS.last
              clear hS
              go_wp2_with fail
              go_ret
              exact N.out _ HSS.out
            · as_aux_lemma =>
              rw [g1] at y3
              rw [g2] at y4
              rw [g3] at y5
              have t4 : decide (l.gate < 0) = false := by rw [decide_eq_false_iff_not]; exact g4
              have t5 : decide (f < l.gate) = false := by rw [decide_eq_false_iff_not]; exact g5
              have t6 : decide (l.rank < 1) = false := by rw [decide_eq_false_iff_not]; exact g6
              have t7 : decide (gi < l.rank) = false := by rw [decide_eq_false_iff_not]; exact g7
              have t8 : (cs != 1) = true := by rw [bne_iff_ne]; exact g8
              have N := Lib.hid (NO.out (fun c => g8 (hno.out.1 c).2.2.2.2.2.2.2))
              have HS1 : Hid (LtsS P f (.slice (some ⟨b, off, none⟩) q cap) L0 (l.gate) (l.rank) (0) (0) (false) wr wr) := ⟨x0, x1, y1, y2, y3, y4, y5, Below.refl _ _⟩
              clear NO YES hno
              clear g1 g2 g3 g4 g5 g6 g7
              go_wp2_with fail
              go_region_held3 (fun w' => w'.cell? ⟨P, 0, none⟩ = some (.int .i64 f) ∧ w'.cell? ⟨P, 1, none⟩ = some (.slice (some ⟨b, off, none⟩) q cap) ∧ w'.cell? ⟨L0, 1, none⟩ = some (.int .i64 l.gate) ∧ w'.cell? ⟨L0, 2, none⟩ = some (.int .i64 l.rank) ∧ w'.cell? ⟨L0, 3, none⟩ = some (.int .i64 0) ∧ w'.cell? ⟨L0, 4, none⟩ = some (.int .i64 0) ∧ w'.cell? ⟨L0, 5, none⟩ = some (.bool false) ∧ Below wr.heap.size wr w')
                (first | exact LtsS.of hP hL0 HS1.out (Below.refl _ _).drew | exact LtsS.of hP hL0 HS1.out ((LtsS.last (P := P) (f := f) (vL := .slice (some ⟨b, off, none⟩) q cap) (L0 := L0) (vg := l.gate) (vr := l.rank) (vi := 0) (vs := 0) (vo := false) (by assumption)).trans (hbw.mono (LtsS.last (P := P) (f := f) (vL := .slice (some ⟨b, off, none⟩) q cap) (L0 := L0) (vg := l.gate) (vr := l.rank) (vi := 0) (vs := 0) (vo := false) (by assumption)).size)))
                (first
                  | (go_at_call 69; refine (HGI.out _ ?hbx).mono ?_; (case hbx => exact (LtsS.last (P := P) (f := f) (vL := .slice (some ⟨b, off, none⟩) q cap) (L0 := L0) (vg := l.gate) (vr := l.rank) (vi := 0) (vs := 0) (vo := false) (by assumption))); rintro e w2 ⟨rfl, hbw⟩))
              have hS : LtsS P f (.slice (some ⟨b, off, none⟩) q cap) L0 (l.gate) (l.rank) (0) (0) (false) wr w2 := by assumption
              have HSS := Lib.hid hS.last
              clear hS
              go_wp2_with fail
              go_ret
              exact N.out _ HSS.out
            · as_aux_lemma =>
              rw [g1] at y3
              rw [g2] at y4
              rw [g3] at y5
              have t4 : decide (l.gate < 0) = false := by rw [decide_eq_false_iff_not]; exact g4
              have t5 : decide (f < l.gate) = false := by rw [decide_eq_false_iff_not]; exact g5
              have t6 : decide (l.rank < 1) = false := by rw [decide_eq_false_iff_not]; exact g6
              have t7 : decide (gi < l.rank) = false := by rw [decide_eq_false_iff_not]; exact g7
              have t8 : (cs != 1) = false := by rw [bne_eq_false_iff_eq]; exact g8
              have Y := Lib.hid (YES.out (hno.out.2 ⟨g1, g2, g3, by omega, by omega, by omega, by omega, g8⟩))
              have HS1 : Hid (LtsS P f (.slice (some ⟨b, off, none⟩) q cap) L0 (l.gate) (l.rank) (0) (0) (false) wr wr) := ⟨x0, x1, y1, y2, y3, y4, y5, Below.refl _ _⟩
              clear NO YES hno
              clear g1 g2 g3 g4 g5 g6 g7
              go_wp2_with fail
              go_region_held3 (fun w' => w'.cell? ⟨P, 0, none⟩ = some (.int .i64 f) ∧ w'.cell? ⟨P, 1, none⟩ = some (.slice (some ⟨b, off, none⟩) q cap) ∧ w'.cell? ⟨L0, 1, none⟩ = some (.int .i64 l.gate) ∧ w'.cell? ⟨L0, 2, none⟩ = some (.int .i64 l.rank) ∧ w'.cell? ⟨L0, 3, none⟩ = some (.int .i64 0) ∧ w'.cell? ⟨L0, 4, none⟩ = some (.int .i64 0) ∧ w'.cell? ⟨L0, 5, none⟩ = some (.bool false) ∧ Below wr.heap.size wr w')
                (first | exact LtsS.of hP hL0 HS1.out (Below.refl _ _).drew | exact LtsS.of hP hL0 HS1.out ((LtsS.last (P := P) (f := f) (vL := .slice (some ⟨b, off, none⟩) q cap) (L0 := L0) (vg := l.gate) (vr := l.rank) (vi := 0) (vs := 0) (vo := false) (by assumption)).trans (hbw.mono (LtsS.last (P := P) (f := f) (vL := .slice (some ⟨b, off, none⟩) q cap) (L0 := L0) (vg := l.gate) (vr := l.rank) (vi := 0) (vs := 0) (vo := false) (by assumption)).size)))
                (first
                  | (go_at_call 69; refine (HGI.out _ ?hbx).mono ?_; (case hbx => exact (LtsS.last (P := P) (f := f) (vL := .slice (some ⟨b, off, none⟩) q cap) (L0 := L0) (vg := l.gate) (vr := l.rank) (vi := 0) (vs := 0) (vo := false) (by assumption))); rintro e w2 ⟨rfl, hbw⟩))
              have hS : LtsS P f (.slice (some ⟨b, off, none⟩) q cap) L0 (l.gate) (l.rank) (0) (0) (false) wr w2 := by assumption
              have HSS := Lib.hid hS.last
              clear hS
              go_wp2_with fail
              go_roundw
              case rel => exact Y.out _ HSS.out
              case measure => simp [intOf]; omega
          · by_cases k2 : l.kind = 2
            · have e1 : (l.kind == 1) = false := by rw [beq_eq_false_iff_ne]; exact k1
              have e2 : (l.kind == 2) = true := by rw [beq_iff_eq]; exact k2
              have hno : Hid (refL f ls l ↔ (l.gate = 0 ∧ l.rank = 0 ∧ (l.sign = 1 ∨ l.sign = -1) ∧ 1 ≤ l.id ∧ l.id ≤ cntK 2 ls / 2 ∧ cntB (pairP l) ls = 1 ∧ cntB (isId l.id) ls = 2)) := by
                unfold Hid refL
                constructor
                · rintro (c | c)
                  · exact absurd c.1 k1
                  · exact c.2
                · exact fun c => .inr ⟨k2, c⟩
              have HVI : Hid (∀ W, Below wr.heap.size wr W → Calls Tryd.prog 35 #[.agg #[.int .i64 f, .slice (some ⟨b, off, none⟩) q cap]] W fun e w' => e = .returned (.int .i64 (cntK 2 ls)) ∧ Below W.heap.size W w') :=
                fun W hW => visits_calls f _ q cap ls W (HLW.out.below hW) hn
              have HTI : Hid (∀ W, Below wr.heap.size wr W → Calls Tryd.prog 70 #[.agg #[.int .i64 f, .slice (some ⟨b, off, none⟩) q cap], .int .i64 l.id] W fun e w' => e = .returned (.int .i64 (cntB (isId l.id) ls)) ∧ Below W.heap.size W w') :=
                fun W hW => times_calls f _ q cap ls l.id W (HLW.out.below hW) hn
              obtain ⟨ti, hti⟩ : ∃ ti, cntB (isId l.id) ls = ti := ⟨_, rfl⟩
              obtain ⟨vi, hvi⟩ : ∃ vi, cntK 2 ls = vi := ⟨_, rfl⟩
              have v0 : 0 ≤ vi := by rw [← hvi]; exact cntK_nonneg 2 ls
              have v1 : vi ≤ q := by
                have h9 := cntK_take_le 2 ls q
                rw [List.take_of_length_le (by rw [HL.out]; omega), hvi] at h9
                exact h9
              have hvq : IntKind.i64.wrap (vi.tdiv 2) = vi / 2 := by rw [Int.tdiv_eq_ediv_of_nonneg v0]; exact wrapL (by omega) (by omega)
              rw [hti] at hno HTI
              rw [hvi] at hno HVI
              rw [HCP.out] at hno
              clear k1 k2 hti hvi
              have hcs : (l.gate ≠ 0) ∨ (l.gate = 0 ∧ l.rank ≠ 0) ∨ (l.gate = 0 ∧ l.rank = 0 ∧ l.sign ≠ 1 ∧ l.sign ≠ -1) ∨ (l.gate = 0 ∧ l.rank = 0 ∧ (l.sign = 1 ∨ (l.sign ≠ 1 ∧ l.sign = -1)) ∧ l.id < 1) ∨ (l.gate = 0 ∧ l.rank = 0 ∧ (l.sign = 1 ∨ (l.sign ≠ 1 ∧ l.sign = -1)) ∧ ¬ l.id < 1 ∧ vi / 2 < l.id) ∨
                (l.gate = 0 ∧ l.rank = 0 ∧ (l.sign = 1 ∨ (l.sign ≠ 1 ∧ l.sign = -1)) ∧ ¬ l.id < 1 ∧ ¬ vi / 2 < l.id ∧ cp ≠ 1) ∨ (l.gate = 0 ∧ l.rank = 0 ∧ (l.sign = 1 ∨ (l.sign ≠ 1 ∧ l.sign = -1)) ∧ ¬ l.id < 1 ∧ ¬ vi / 2 < l.id ∧ cp = 1 ∧ ti ≠ 2) ∨
                (l.gate = 0 ∧ l.rank = 0 ∧ (l.sign = 1 ∨ (l.sign ≠ 1 ∧ l.sign = -1)) ∧ ¬ l.id < 1 ∧ ¬ vi / 2 < l.id ∧ cp = 1 ∧ ti = 2) := by
                by_cases q1 : l.gate = 0
                · by_cases q2 : l.rank = 0
                  · by_cases q3 : l.sign = 1 ∨ (l.sign ≠ 1 ∧ l.sign = -1)
                    · by_cases q4 : l.id < 1
                      · exact .inr (.inr (.inr (.inl ⟨q1, q2, q3, q4⟩)))
                      · by_cases q5 : vi / 2 < l.id
                        · exact .inr (.inr (.inr (.inr (.inl ⟨q1, q2, q3, q4, q5⟩))))
                        · by_cases q6 : cp = 1
                          · by_cases q7 : ti = 2
                            · exact .inr (.inr (.inr (.inr (.inr (.inr (.inr ⟨q1, q2, q3, q4, q5, q6, q7⟩))))))
                            · exact .inr (.inr (.inr (.inr (.inr (.inr (.inl ⟨q1, q2, q3, q4, q5, q6, q7⟩))))))
                          · exact .inr (.inr (.inr (.inr (.inr (.inl ⟨q1, q2, q3, q4, q5, q6⟩)))))
                    · exact .inr (.inr (.inl ⟨q1, q2, fun c => q3 (.inl c), fun c => q3 (.inr ⟨by omega, c⟩)⟩))
                  · exact .inr (.inl ⟨q1, q2⟩)
                · exact .inl q1
              rcases hcs with g1 | ⟨g1, g2⟩ | ⟨g1, g2, g3, g4⟩ | ⟨g1, g2, g3, g4⟩ | ⟨g1, g2, g3, g4, g5⟩ | ⟨g1, g2, g3, g4, g5, g6⟩ | ⟨g1, g2, g3, g4, g5, g6, g7⟩ | ⟨g1, g2, g3, g4, g5, g6, g7⟩
              · as_aux_lemma =>
                have t1 : (l.gate != 0) = true := by rw [bne_iff_ne]; exact g1
                have N := Lib.hid (NO.out (fun c => g1 (hno.out.1 c).1))
                clear NO YES hno
                go_wp2_with fail
                go_quiet (fail)
                go_wp2_with fail
                go_ret
                exact N.out _ (BQ.out _)
              · as_aux_lemma =>
                rw [g1] at y1
                have t2 : (l.rank != 0) = true := by rw [bne_iff_ne]; exact g2
                have N := Lib.hid (NO.out (fun c => g2 (hno.out.1 c).2.1))
                clear NO YES hno
                go_wp2_with fail
                go_quiet (fail)
                go_wp2_with fail
                go_ret
                exact N.out _ (BQ.out _)
              · as_aux_lemma =>
                rw [g1] at y1
                rw [g2] at y2
                have t3 : (l.sign != 1) = true := by rw [bne_iff_ne]; exact g3
                have t4 : (l.sign != -1) = true := by rw [bne_iff_ne]; exact g4
                have N := Lib.hid (NO.out (fun c => by have := (hno.out.1 c).2.2.1; omega))
                clear NO YES hno
                go_wp2_with fail
                go_quiet (fail)
                go_wp2_with fail
                go_ret
                exact N.out _ (BQ.out _)
              · as_aux_lemma =>
                rw [g1] at y1
                rw [g2] at y2
                rcases g3 with g3 | ⟨g3', g3⟩
                · rw [g3] at y4
                  have hg3 : l.sign = 1 ∨ l.sign = -1 := .inl g3
                  have t5 : decide (l.id < 1) = true := by rw [decide_eq_true_iff]; exact g4
                  have N := Lib.hid (NO.out (fun c => by have := (hno.out.1 c).2.2.2.1; omega))
                  clear g1 g2 g3 g4
                  clear NO YES hno
                  go_wp2_with fail
                  go_quiet (fail)
                  go_wp2_with fail
                  go_ret
                  exact N.out _ (BQ.out _)
                · rw [g3] at y4
                  have hg3 : l.sign = 1 ∨ l.sign = -1 := .inr g3
                  have t5 : decide (l.id < 1) = true := by rw [decide_eq_true_iff]; exact g4
                  have N := Lib.hid (NO.out (fun c => by have := (hno.out.1 c).2.2.2.1; omega))
                  clear g1 g2 g3 g4
                  clear NO YES hno
                  go_wp2_with fail
                  go_quiet (fail)
                  go_wp2_with fail
                  go_ret
                  exact N.out _ (BQ.out _)
              · as_aux_lemma =>
                rw [g1] at y1
                rw [g2] at y2
                rcases g3 with g3 | ⟨g3', g3⟩
                · rw [g3] at y4
                  have hg3 : l.sign = 1 ∨ l.sign = -1 := .inl g3
                  have t5 : decide (l.id < 1) = false := by rw [decide_eq_false_iff_not]; exact g4
                  have t6 : decide (vi / 2 < l.id) = true := by rw [decide_eq_true_iff]; exact g5
                  have N := Lib.hid (NO.out (fun c => by have := (hno.out.1 c).2.2.2.2.1; omega))
                  have HS1 : Hid (LtsS P f (.slice (some ⟨b, off, none⟩) q cap) L0 (0) (0) (l.id) (1) (l.over) wr wr) := ⟨x0, x1, y1, y2, y3, y4, y5, Below.refl _ _⟩
                  clear NO YES hno
                  clear g1 g2 g3 g4 g5
                  go_wp2_with fail
                  refine wp_region_held_drew (S := (fun w' => w'.cell? ⟨P, 0, none⟩ = some (.int .i64 f) ∧ w'.cell? ⟨P, 1, none⟩ = some (.slice (some ⟨b, off, none⟩) q cap) ∧ w'.cell? ⟨L0, 1, none⟩ = some (.int .i64 0) ∧ w'.cell? ⟨L0, 2, none⟩ = some (.int .i64 0) ∧ w'.cell? ⟨L0, 3, none⟩ = some (.int .i64 l.id) ∧ w'.cell? ⟨L0, 4, none⟩ = some (.int .i64 1) ∧ w'.cell? ⟨L0, 5, none⟩ = some (.bool l.over) ∧ Below wr.heap.size wr w')) (by kernel_rfl) ?_ (fun hHeld => ?_)
                  · exact LtsS.of hP hL0 HS1.out (Below.refl _ _).drew
                  refine takeLW 0 ltO0 (some 130) ?_ ?_ (by assumption) ?_
                  rotate_left
                  · (intro w hSw; dsimp only [ltO0] at hSw ⊢; go_simp <;> with_reducible rfl)
                  try simp only [Act.put, List.setIfInBounds_toArray, List.set_cons_zero, List.set_cons_succ]
                  refine takeLW 1 ltO1 (some 131) ?_ ?_ (by assumption) ?_
                  rotate_left
                  · (intro w hSw; dsimp only [ltO1] at hSw ⊢; go_simp <;> with_reducible rfl)
                  try simp only [Act.put, List.setIfInBounds_toArray, List.set_cons_zero, List.set_cons_succ]
                  refine takeLW 2 ltO2 (some 132) ?_ ?_ (by assumption) ?_
                  rotate_left
                  · (intro w hSw; dsimp only [ltO2] at hSw ⊢; go_simp <;> with_reducible rfl)
                  try simp only [Act.put, List.setIfInBounds_toArray, List.set_cons_zero, List.set_cons_succ]
                  refine takeLW 3 ltO3 (some 133) ?_ ?_ (by assumption) ?_
                  rotate_left
                  · (intro w hSw; dsimp only [ltO3] at hSw ⊢; go_simp <;> with_reducible rfl)
                  try simp only [Act.put, List.setIfInBounds_toArray, List.set_cons_zero, List.set_cons_succ]
                  refine takeLW 4 ltO4 (some 134) ?_ ?_ (by assumption) ?_
                  rotate_left
                  · (intro w hSw; dsimp only [ltO4] at hSw ⊢; go_simp <;> with_reducible rfl)
                  try simp only [Act.put, List.setIfInBounds_toArray, List.set_cons_zero, List.set_cons_succ]
                  refine takeLW 5 ltO5 (some 135) ?_ ?_ (by assumption) ?_
                  rotate_left
                  · (intro w hSw; dsimp only [ltO5] at hSw ⊢; go_simp <;> with_reducible rfl)
                  try simp only [Act.put, List.setIfInBounds_toArray, List.set_cons_zero, List.set_cons_succ]
                  refine takeLW 6 ltO6 (some 136) ?_ ?_ (by assumption) ?_
                  rotate_left
                  · (intro w hSw; dsimp only [ltO6] at hSw ⊢; go_simp <;> with_reducible rfl)
                  try simp only [Act.put, List.setIfInBounds_toArray, List.set_cons_zero, List.set_cons_succ]
                  refine takeLW 7 ltO7 (some 137) ?_ ?_ (by assumption) ?_
                  rotate_left
                  · (intro w hSw; dsimp only [ltO7] at hSw ⊢; go_simp <;> with_reducible rfl)
                  try simp only [Act.put, List.setIfInBounds_toArray, List.set_cons_zero, List.set_cons_succ]
                  refine takeLW 8 ltO8 (some 138) ?_ ?_ (by assumption) ?_
                  rotate_left
                  · (intro w hSw; dsimp only [ltO8] at hSw ⊢; go_simp <;> with_reducible rfl)
                  try simp only [Act.put, List.setIfInBounds_toArray, List.set_cons_zero, List.set_cons_succ]
                  refine takeLW 9 ltO9 (some 139) ?_ ?_ (by assumption) ?_
                  rotate_left
                  · (intro w hSw; dsimp only [ltO9] at hSw ⊢; go_simp <;> with_reducible rfl)
                  try simp only [Act.put, List.setIfInBounds_toArray, List.set_cons_zero, List.set_cons_succ]
                  refine takeLW 10 ltO10 (some 140) ?_ ?_ (by assumption) ?_
                  rotate_left
                  · (intro w hSw; dsimp only [ltO10] at hSw ⊢; go_simp <;> with_reducible rfl)
                  try simp only [Act.put, List.setIfInBounds_toArray, List.set_cons_zero, List.set_cons_succ]
                  refine takeLW 11 ltO11 (some 141) ?_ ?_ (by assumption) ?_
                  rotate_left
                  · (intro w hSw; dsimp only [ltO11] at hSw ⊢; go_simp <;> with_reducible rfl)
                  try simp only [Act.put, List.setIfInBounds_toArray, List.set_cons_zero, List.set_cons_succ]
                  refine takeLW 12 ltO12 (some 142) ?_ ?_ (by assumption) ?_
                  rotate_left
                  · (intro w hSw; dsimp only [ltO12] at hSw ⊢; go_simp <;> with_reducible rfl)
                  try simp only [Act.put, List.setIfInBounds_toArray, List.set_cons_zero, List.set_cons_succ]
                  refine takeLU 13 ltO13 (some 143) (by assumption) ?_
                  try simp only [Act.put, List.setIfInBounds_toArray, List.set_cons_zero, List.set_cons_succ]
                  refine takeLU 14 ltO14 (some 144) (by assumption) ?_
                  try simp only [Act.put, List.setIfInBounds_toArray, List.set_cons_zero, List.set_cons_succ]
                  refine takeLU 15 ltO15 (some 145) (by assumption) ?_
                  try simp only [Act.put, List.setIfInBounds_toArray, List.set_cons_zero, List.set_cons_succ]
                  refine takeLW 16 ltO16 (some 146) ?_ ?_ (by assumption) ?_
                  rotate_left
                  · (intro w hSw; dsimp only [ltO16] at hSw ⊢; go_simp <;> with_reducible rfl)
                  try simp only [Act.put, List.setIfInBounds_toArray, List.set_cons_zero, List.set_cons_succ]
                  refine takeLW 17 ltO17 (some 147) ?_ ?_ (by assumption) ?_
                  rotate_left
                  · (intro w hSw; dsimp only [ltO17] at hSw ⊢; go_simp <;> with_reducible rfl)
                  try simp only [Act.put, List.setIfInBounds_toArray, List.set_cons_zero, List.set_cons_succ]
                  refine takeLW 18 ltO18 (some 148) ?_ ?_ (by assumption) ?_
                  rotate_left
                  · (intro w hSw; dsimp only [ltO18] at hSw ⊢; go_simp <;> with_reducible rfl)
                  try simp only [Act.put, List.setIfInBounds_toArray, List.set_cons_zero, List.set_cons_succ]
                  refine takeLW 19 ltO19 (some 149) ?_ ?_ (by assumption) ?_
                  rotate_left
                  · (intro w hSw; dsimp only [ltO19] at hSw ⊢; go_simp <;> with_reducible rfl)
                  try simp only [Act.put, List.setIfInBounds_toArray, List.set_cons_zero, List.set_cons_succ]
                  refine takeLW 20 ltO20 (some 150) ?_ ?_ (by assumption) ?_
                  rotate_left
                  · (intro w hSw; dsimp only [ltO20] at hSw ⊢; go_simp <;> with_reducible rfl)
                  try simp only [Act.put, List.setIfInBounds_toArray, List.set_cons_zero, List.set_cons_succ]
                  refine takeLW 21 ltO21 (some 151) ?_ ?_ (by assumption) ?_
                  rotate_left
                  · (intro w hSw; dsimp only [ltO21] at hSw ⊢; go_simp <;> with_reducible rfl)
                  try simp only [Act.put, List.setIfInBounds_toArray, List.set_cons_zero, List.set_cons_succ]
                  refine takeLW 22 ltO22 (some 152) ?_ ?_ (by assumption) ?_
                  rotate_left
                  · (intro w hSw; dsimp only [ltO22] at hSw ⊢; go_simp <;> with_reducible rfl)
                  try simp only [Act.put, List.setIfInBounds_toArray, List.set_cons_zero, List.set_cons_succ]
                  refine takeLW 23 ltO23 (some 153) ?_ ?_ (by assumption) ?_
                  rotate_left
                  · (intro w hSw; dsimp only [ltO23] at hSw ⊢; go_simp <;> with_reducible rfl)
                  try simp only [Act.put, List.setIfInBounds_toArray, List.set_cons_zero, List.set_cons_succ]
                  refine takeLW 24 ltO24 (some 154) ?_ ?_ (by assumption) ?_
                  rotate_left
                  · (intro w hSw; dsimp only [ltO24] at hSw ⊢; go_simp <;> with_reducible rfl)
                  try simp only [Act.put, List.setIfInBounds_toArray, List.set_cons_zero, List.set_cons_succ]
                  refine takeLW 25 ltO25 (some 155) ?_ ?_ (by assumption) ?_
                  rotate_left
                  · (intro w hSw; dsimp only [ltO25] at hSw ⊢; go_simp <;> with_reducible rfl)
                  try simp only [Act.put, List.setIfInBounds_toArray, List.set_cons_zero, List.set_cons_succ]
                  refine takeLW 26 ltO26 (some 156) ?_ ?_ (by assumption) ?_
                  rotate_left
                  · (intro w hSw; dsimp only [ltO26] at hSw ⊢; go_simp <;> with_reducible rfl)
                  try simp only [Act.put, List.setIfInBounds_toArray, List.set_cons_zero, List.set_cons_succ]
                  refine wpAnyH_ready (rs := [27]) (by kernel_rfl) (by simp) ?_
                  refine AllReadyH.cons (o := { dst := some 157, op := Go.Op.call { callee := Go.Callee.value (Go.Operand.func 35), args := #[Go.Operand.tmp 156], argTypes := #[33] }, type := 3, pos := "ref.go:79", after := #[{ on := 26, ground := Go.Ground.data }, { on := 23, ground := Go.Ground.chain }, { on := 23, ground := Go.Ground.guard }], guard := some (23, false) }) rfl (fun K hK => ?_) AllReadyH.nil
                  go_simp
                  refine (HVI.out _ ?_).mono ?_
                  · exact (LtsS.last (P := P) (f := f) (vL := .slice (some ⟨b, off, none⟩) q cap) (L0 := L0) (vg := 0) (vr := 0) (vi := l.id) (vs := 1) (vo := l.over) (by assumption))
                  rintro e w2 ⟨rfl, hbw⟩
                  go_wp2_with fail
                  refine hK.out _ _ ?_ (fun hHeld => ?_)
                  · exact LtsS.of hP hL0 HS1.out ((LtsS.last (P := P) (f := f) (vL := .slice (some ⟨b, off, none⟩) q cap) (L0 := L0) (vg := 0) (vr := 0) (vi := l.id) (vs := 1) (vo := l.over) (by assumption)).trans (hbw.mono (LtsS.last (P := P) (f := f) (vL := .slice (some ⟨b, off, none⟩) q cap) (L0 := L0) (vg := 0) (vr := 0) (vi := l.id) (vs := 1) (vo := l.over) (by assumption)).size))
                  clear hK K hbw
                  try simp only [Act.put, List.setIfInBounds_toArray, List.set_cons_zero, List.set_cons_succ]
                  refine takeLW 28 ltO27 (some 158) ?_ ?_ (by assumption) ?_
                  rotate_left
                  · (intro w hSw; dsimp only [ltO27] at hSw ⊢; go_simp <;> with_reducible rfl)
                  try simp only [Act.put, List.setIfInBounds_toArray, List.set_cons_zero, List.set_cons_succ]
                  refine takeLW 29 ltO28 (some 159) ?_ ?_ (by assumption) ?_
                  rotate_left
                  · (intro w hSw; dsimp only [ltO28] at hSw ⊢; go_simp <;> with_reducible rfl)
                  try simp only [Act.put, List.setIfInBounds_toArray, List.set_cons_zero, List.set_cons_succ]
                  refine takeLW 30 ltO29 (some 160) ?_ ?_ (by assumption) ?_
                  rotate_left
                  · (intro w hSw; dsimp only [ltO29] at hSw ⊢; go_simp <;> with_reducible rfl)
                  try simp only [Act.put, List.setIfInBounds_toArray, List.set_cons_zero, List.set_cons_succ]
                  refine takeLW 31 ltO30 (some 161) ?_ ?_ (by assumption) ?_
                  rotate_left
                  · (intro w hSw; dsimp only [ltO30] at hSw ⊢; go_simp <;> with_reducible rfl)
                  try simp only [Act.put, List.setIfInBounds_toArray, List.set_cons_zero, List.set_cons_succ]
                  refine takeLU 32 ltO31 (some 162) (by assumption) ?_
                  try simp only [Act.put, List.setIfInBounds_toArray, List.set_cons_zero, List.set_cons_succ]
                  refine takeLU 33 ltO32 (some 163) (by assumption) ?_
                  try simp only [Act.put, List.setIfInBounds_toArray, List.set_cons_zero, List.set_cons_succ]
                  refine takeLW 34 ltO33 (some 164) ?_ ?_ (by assumption) ?_
                  rotate_left
                  · (intro w hSw; dsimp only [ltO33] at hSw ⊢; go_simp <;> with_reducible rfl)
                  try simp only [Act.put, List.setIfInBounds_toArray, List.set_cons_zero, List.set_cons_succ]
                  refine takeLW 35 ltO34 (some 165) ?_ ?_ (by assumption) ?_
                  rotate_left
                  · (intro w hSw; dsimp only [ltO34] at hSw ⊢; go_simp <;> with_reducible rfl)
                  try simp only [Act.put, List.setIfInBounds_toArray, List.set_cons_zero, List.set_cons_succ]
                  refine takeLU 36 ltO35 (some 166) (by assumption) ?_
                  try simp only [Act.put, List.setIfInBounds_toArray, List.set_cons_zero, List.set_cons_succ]
                  refine takeLU 37 ltO36 (some 167) (by assumption) ?_
                  try simp only [Act.put, List.setIfInBounds_toArray, List.set_cons_zero, List.set_cons_succ]
                  refine takeLU 38 ltO37 (some 168) (by assumption) ?_
                  try simp only [Act.put, List.setIfInBounds_toArray, List.set_cons_zero, List.set_cons_succ]
                  refine takeLU 39 ltO38 (some 169) (by assumption) ?_
                  try simp only [Act.put, List.setIfInBounds_toArray, List.set_cons_zero, List.set_cons_succ]
                  refine takeLU 40 ltO39 (some 170) (by assumption) ?_
                  try simp only [Act.put, List.setIfInBounds_toArray, List.set_cons_zero, List.set_cons_succ]
                  refine takeLW 41 ltO40 (some 171) ?_ ?_ (by assumption) ?_
                  rotate_left
                  · (intro w hSw; dsimp only [ltO40] at hSw ⊢; go_simp <;> with_reducible rfl)
                  try simp only [Act.put, List.setIfInBounds_toArray, List.set_cons_zero, List.set_cons_succ]
                  refine wpAnyH_done (by kernel_rfl) ?_ _
                  have hS : LtsS P f (.slice (some ⟨b, off, none⟩) q cap) L0 (0) (0) (l.id) (1) (l.over) wr w2 := by assumption
                  have HSS := Lib.hid hS.last
                  clear hS
                  go_wp2_with fail
                  go_ret
                  exact N.out _ HSS.out
                · rw [g3] at y4
                  have hg3 : l.sign = 1 ∨ l.sign = -1 := .inr g3
                  have t5 : decide (l.id < 1) = false := by rw [decide_eq_false_iff_not]; exact g4
                  have t6 : decide (vi / 2 < l.id) = true := by rw [decide_eq_true_iff]; exact g5
                  have N := Lib.hid (NO.out (fun c => by have := (hno.out.1 c).2.2.2.2.1; omega))
                  have HS1 : Hid (LtsS P f (.slice (some ⟨b, off, none⟩) q cap) L0 (0) (0) (l.id) ((-1)) (l.over) wr wr) := ⟨x0, x1, y1, y2, y3, y4, y5, Below.refl _ _⟩
                  clear NO YES hno
                  clear g1 g2 g3 g4 g5
                  go_wp2_with fail
                  refine wp_region_held_drew (S := (fun w' => w'.cell? ⟨P, 0, none⟩ = some (.int .i64 f) ∧ w'.cell? ⟨P, 1, none⟩ = some (.slice (some ⟨b, off, none⟩) q cap) ∧ w'.cell? ⟨L0, 1, none⟩ = some (.int .i64 0) ∧ w'.cell? ⟨L0, 2, none⟩ = some (.int .i64 0) ∧ w'.cell? ⟨L0, 3, none⟩ = some (.int .i64 l.id) ∧ w'.cell? ⟨L0, 4, none⟩ = some (.int .i64 (-1)) ∧ w'.cell? ⟨L0, 5, none⟩ = some (.bool l.over) ∧ Below wr.heap.size wr w')) (by kernel_rfl) ?_ (fun hHeld => ?_)
                  · exact LtsS.of hP hL0 HS1.out (Below.refl _ _).drew
                  refine takeLW 0 ltO0 (some 130) ?_ ?_ (by assumption) ?_
                  rotate_left
                  · (intro w hSw; dsimp only [ltO0] at hSw ⊢; go_simp <;> with_reducible rfl)
                  try simp only [Act.put, List.setIfInBounds_toArray, List.set_cons_zero, List.set_cons_succ]
                  refine takeLW 1 ltO1 (some 131) ?_ ?_ (by assumption) ?_
                  rotate_left
                  · (intro w hSw; dsimp only [ltO1] at hSw ⊢; go_simp <;> with_reducible rfl)
                  try simp only [Act.put, List.setIfInBounds_toArray, List.set_cons_zero, List.set_cons_succ]
                  refine takeLW 2 ltO2 (some 132) ?_ ?_ (by assumption) ?_
                  rotate_left
                  · (intro w hSw; dsimp only [ltO2] at hSw ⊢; go_simp <;> with_reducible rfl)
                  try simp only [Act.put, List.setIfInBounds_toArray, List.set_cons_zero, List.set_cons_succ]
                  refine takeLW 3 ltO3 (some 133) ?_ ?_ (by assumption) ?_
                  rotate_left
                  · (intro w hSw; dsimp only [ltO3] at hSw ⊢; go_simp <;> with_reducible rfl)
                  try simp only [Act.put, List.setIfInBounds_toArray, List.set_cons_zero, List.set_cons_succ]
                  refine takeLW 4 ltO4 (some 134) ?_ ?_ (by assumption) ?_
                  rotate_left
                  · (intro w hSw; dsimp only [ltO4] at hSw ⊢; go_simp <;> with_reducible rfl)
                  try simp only [Act.put, List.setIfInBounds_toArray, List.set_cons_zero, List.set_cons_succ]
                  refine takeLW 5 ltO5 (some 135) ?_ ?_ (by assumption) ?_
                  rotate_left
                  · (intro w hSw; dsimp only [ltO5] at hSw ⊢; go_simp <;> with_reducible rfl)
                  try simp only [Act.put, List.setIfInBounds_toArray, List.set_cons_zero, List.set_cons_succ]
                  refine takeLW 6 ltO6 (some 136) ?_ ?_ (by assumption) ?_
                  rotate_left
                  · (intro w hSw; dsimp only [ltO6] at hSw ⊢; go_simp <;> with_reducible rfl)
                  try simp only [Act.put, List.setIfInBounds_toArray, List.set_cons_zero, List.set_cons_succ]
                  refine takeLW 7 ltO7 (some 137) ?_ ?_ (by assumption) ?_
                  rotate_left
                  · (intro w hSw; dsimp only [ltO7] at hSw ⊢; go_simp <;> with_reducible rfl)
                  try simp only [Act.put, List.setIfInBounds_toArray, List.set_cons_zero, List.set_cons_succ]
                  refine takeLW 8 ltO8 (some 138) ?_ ?_ (by assumption) ?_
                  rotate_left
                  · (intro w hSw; dsimp only [ltO8] at hSw ⊢; go_simp <;> with_reducible rfl)
                  try simp only [Act.put, List.setIfInBounds_toArray, List.set_cons_zero, List.set_cons_succ]
                  refine takeLW 9 ltO9 (some 139) ?_ ?_ (by assumption) ?_
                  rotate_left
                  · (intro w hSw; dsimp only [ltO9] at hSw ⊢; go_simp <;> with_reducible rfl)
                  try simp only [Act.put, List.setIfInBounds_toArray, List.set_cons_zero, List.set_cons_succ]
                  refine takeLW 10 ltO10 (some 140) ?_ ?_ (by assumption) ?_
                  rotate_left
                  · (intro w hSw; dsimp only [ltO10] at hSw ⊢; go_simp <;> with_reducible rfl)
                  try simp only [Act.put, List.setIfInBounds_toArray, List.set_cons_zero, List.set_cons_succ]
                  refine takeLW 11 ltO11 (some 141) ?_ ?_ (by assumption) ?_
                  rotate_left
                  · (intro w hSw; dsimp only [ltO11] at hSw ⊢; go_simp <;> with_reducible rfl)
                  try simp only [Act.put, List.setIfInBounds_toArray, List.set_cons_zero, List.set_cons_succ]
                  refine takeLW 12 ltO12 (some 142) ?_ ?_ (by assumption) ?_
                  rotate_left
                  · (intro w hSw; dsimp only [ltO12] at hSw ⊢; go_simp <;> with_reducible rfl)
                  try simp only [Act.put, List.setIfInBounds_toArray, List.set_cons_zero, List.set_cons_succ]
                  refine takeLW 13 ltO13 (some 143) ?_ ?_ (by assumption) ?_
                  rotate_left
                  · (intro w hSw; dsimp only [ltO13] at hSw ⊢; go_simp <;> with_reducible rfl)
                  try simp only [Act.put, List.setIfInBounds_toArray, List.set_cons_zero, List.set_cons_succ]
                  refine takeLW 14 ltO14 (some 144) ?_ ?_ (by assumption) ?_
                  rotate_left
                  · (intro w hSw; dsimp only [ltO14] at hSw ⊢; go_simp <;> with_reducible rfl)
                  try simp only [Act.put, List.setIfInBounds_toArray, List.set_cons_zero, List.set_cons_succ]
                  refine takeLW 15 ltO15 (some 145) ?_ ?_ (by assumption) ?_
                  rotate_left
                  · (intro w hSw; dsimp only [ltO15] at hSw ⊢; go_simp <;> with_reducible rfl)
                  try simp only [Act.put, List.setIfInBounds_toArray, List.set_cons_zero, List.set_cons_succ]
                  refine takeLW 16 ltO16 (some 146) ?_ ?_ (by assumption) ?_
                  rotate_left
                  · (intro w hSw; dsimp only [ltO16] at hSw ⊢; go_simp <;> with_reducible rfl)
                  try simp only [Act.put, List.setIfInBounds_toArray, List.set_cons_zero, List.set_cons_succ]
                  refine takeLW 17 ltO17 (some 147) ?_ ?_ (by assumption) ?_
                  rotate_left
                  · (intro w hSw; dsimp only [ltO17] at hSw ⊢; go_simp <;> with_reducible rfl)
                  try simp only [Act.put, List.setIfInBounds_toArray, List.set_cons_zero, List.set_cons_succ]
                  refine takeLW 18 ltO18 (some 148) ?_ ?_ (by assumption) ?_
                  rotate_left
                  · (intro w hSw; dsimp only [ltO18] at hSw ⊢; go_simp <;> with_reducible rfl)
                  try simp only [Act.put, List.setIfInBounds_toArray, List.set_cons_zero, List.set_cons_succ]
                  refine takeLW 19 ltO19 (some 149) ?_ ?_ (by assumption) ?_
                  rotate_left
                  · (intro w hSw; dsimp only [ltO19] at hSw ⊢; go_simp <;> with_reducible rfl)
                  try simp only [Act.put, List.setIfInBounds_toArray, List.set_cons_zero, List.set_cons_succ]
                  refine takeLW 20 ltO20 (some 150) ?_ ?_ (by assumption) ?_
                  rotate_left
                  · (intro w hSw; dsimp only [ltO20] at hSw ⊢; go_simp <;> with_reducible rfl)
                  try simp only [Act.put, List.setIfInBounds_toArray, List.set_cons_zero, List.set_cons_succ]
                  refine takeLW 21 ltO21 (some 151) ?_ ?_ (by assumption) ?_
                  rotate_left
                  · (intro w hSw; dsimp only [ltO21] at hSw ⊢; go_simp <;> with_reducible rfl)
                  try simp only [Act.put, List.setIfInBounds_toArray, List.set_cons_zero, List.set_cons_succ]
                  refine takeLW 22 ltO22 (some 152) ?_ ?_ (by assumption) ?_
                  rotate_left
                  · (intro w hSw; dsimp only [ltO22] at hSw ⊢; go_simp <;> with_reducible rfl)
                  try simp only [Act.put, List.setIfInBounds_toArray, List.set_cons_zero, List.set_cons_succ]
                  refine takeLW 23 ltO23 (some 153) ?_ ?_ (by assumption) ?_
                  rotate_left
                  · (intro w hSw; dsimp only [ltO23] at hSw ⊢; go_simp <;> with_reducible rfl)
                  try simp only [Act.put, List.setIfInBounds_toArray, List.set_cons_zero, List.set_cons_succ]
                  refine takeLW 24 ltO24 (some 154) ?_ ?_ (by assumption) ?_
                  rotate_left
                  · (intro w hSw; dsimp only [ltO24] at hSw ⊢; go_simp <;> with_reducible rfl)
                  try simp only [Act.put, List.setIfInBounds_toArray, List.set_cons_zero, List.set_cons_succ]
                  refine takeLW 25 ltO25 (some 155) ?_ ?_ (by assumption) ?_
                  rotate_left
                  · (intro w hSw; dsimp only [ltO25] at hSw ⊢; go_simp <;> with_reducible rfl)
                  try simp only [Act.put, List.setIfInBounds_toArray, List.set_cons_zero, List.set_cons_succ]
                  refine takeLW 26 ltO26 (some 156) ?_ ?_ (by assumption) ?_
                  rotate_left
                  · (intro w hSw; dsimp only [ltO26] at hSw ⊢; go_simp <;> with_reducible rfl)
                  try simp only [Act.put, List.setIfInBounds_toArray, List.set_cons_zero, List.set_cons_succ]
                  refine wpAnyH_ready (rs := [27]) (by kernel_rfl) (by simp) ?_
                  refine AllReadyH.cons (o := { dst := some 157, op := Go.Op.call { callee := Go.Callee.value (Go.Operand.func 35), args := #[Go.Operand.tmp 156], argTypes := #[33] }, type := 3, pos := "ref.go:79", after := #[{ on := 26, ground := Go.Ground.data }, { on := 23, ground := Go.Ground.chain }, { on := 23, ground := Go.Ground.guard }], guard := some (23, false) }) rfl (fun K hK => ?_) AllReadyH.nil
                  go_simp
                  refine (HVI.out _ ?_).mono ?_
                  · exact (LtsS.last (P := P) (f := f) (vL := .slice (some ⟨b, off, none⟩) q cap) (L0 := L0) (vg := 0) (vr := 0) (vi := l.id) (vs := (-1)) (vo := l.over) (by assumption))
                  rintro e w2 ⟨rfl, hbw⟩
                  go_wp2_with fail
                  refine hK.out _ _ ?_ (fun hHeld => ?_)
                  · exact LtsS.of hP hL0 HS1.out ((LtsS.last (P := P) (f := f) (vL := .slice (some ⟨b, off, none⟩) q cap) (L0 := L0) (vg := 0) (vr := 0) (vi := l.id) (vs := (-1)) (vo := l.over) (by assumption)).trans (hbw.mono (LtsS.last (P := P) (f := f) (vL := .slice (some ⟨b, off, none⟩) q cap) (L0 := L0) (vg := 0) (vr := 0) (vi := l.id) (vs := (-1)) (vo := l.over) (by assumption)).size))
                  clear hK K hbw
                  try simp only [Act.put, List.setIfInBounds_toArray, List.set_cons_zero, List.set_cons_succ]
                  refine takeLW 28 ltO27 (some 158) ?_ ?_ (by assumption) ?_
                  rotate_left
                  · (intro w hSw; dsimp only [ltO27] at hSw ⊢; go_simp <;> with_reducible rfl)
                  try simp only [Act.put, List.setIfInBounds_toArray, List.set_cons_zero, List.set_cons_succ]
                  refine takeLW 29 ltO28 (some 159) ?_ ?_ (by assumption) ?_
                  rotate_left
                  · (intro w hSw; dsimp only [ltO28] at hSw ⊢; go_simp <;> with_reducible rfl)
                  try simp only [Act.put, List.setIfInBounds_toArray, List.set_cons_zero, List.set_cons_succ]
                  refine takeLW 30 ltO29 (some 160) ?_ ?_ (by assumption) ?_
                  rotate_left
                  · (intro w hSw; dsimp only [ltO29] at hSw ⊢; go_simp <;> with_reducible rfl)
                  try simp only [Act.put, List.setIfInBounds_toArray, List.set_cons_zero, List.set_cons_succ]
                  refine takeLW 31 ltO30 (some 161) ?_ ?_ (by assumption) ?_
                  rotate_left
                  · (intro w hSw; dsimp only [ltO30] at hSw ⊢; go_simp <;> with_reducible rfl)
                  try simp only [Act.put, List.setIfInBounds_toArray, List.set_cons_zero, List.set_cons_succ]
                  refine takeLU 32 ltO31 (some 162) (by assumption) ?_
                  try simp only [Act.put, List.setIfInBounds_toArray, List.set_cons_zero, List.set_cons_succ]
                  refine takeLU 33 ltO32 (some 163) (by assumption) ?_
                  try simp only [Act.put, List.setIfInBounds_toArray, List.set_cons_zero, List.set_cons_succ]
                  refine takeLW 34 ltO33 (some 164) ?_ ?_ (by assumption) ?_
                  rotate_left
                  · (intro w hSw; dsimp only [ltO33] at hSw ⊢; go_simp <;> with_reducible rfl)
                  try simp only [Act.put, List.setIfInBounds_toArray, List.set_cons_zero, List.set_cons_succ]
                  refine takeLW 35 ltO34 (some 165) ?_ ?_ (by assumption) ?_
                  rotate_left
                  · (intro w hSw; dsimp only [ltO34] at hSw ⊢; go_simp <;> with_reducible rfl)
                  try simp only [Act.put, List.setIfInBounds_toArray, List.set_cons_zero, List.set_cons_succ]
                  refine takeLU 36 ltO35 (some 166) (by assumption) ?_
                  try simp only [Act.put, List.setIfInBounds_toArray, List.set_cons_zero, List.set_cons_succ]
                  refine takeLU 37 ltO36 (some 167) (by assumption) ?_
                  try simp only [Act.put, List.setIfInBounds_toArray, List.set_cons_zero, List.set_cons_succ]
                  refine takeLU 38 ltO37 (some 168) (by assumption) ?_
                  try simp only [Act.put, List.setIfInBounds_toArray, List.set_cons_zero, List.set_cons_succ]
                  refine takeLU 39 ltO38 (some 169) (by assumption) ?_
                  try simp only [Act.put, List.setIfInBounds_toArray, List.set_cons_zero, List.set_cons_succ]
                  refine takeLU 40 ltO39 (some 170) (by assumption) ?_
                  try simp only [Act.put, List.setIfInBounds_toArray, List.set_cons_zero, List.set_cons_succ]
                  refine takeLW 41 ltO40 (some 171) ?_ ?_ (by assumption) ?_
                  rotate_left
                  · (intro w hSw; dsimp only [ltO40] at hSw ⊢; go_simp <;> with_reducible rfl)
                  try simp only [Act.put, List.setIfInBounds_toArray, List.set_cons_zero, List.set_cons_succ]
                  refine wpAnyH_done (by kernel_rfl) ?_ _
                  have hS : LtsS P f (.slice (some ⟨b, off, none⟩) q cap) L0 (0) (0) (l.id) ((-1)) (l.over) wr w2 := by assumption
                  have HSS := Lib.hid hS.last
                  clear hS
                  go_wp2_with fail
                  go_ret
                  exact N.out _ HSS.out
              · as_aux_lemma =>
                rw [g1] at y1
                rw [g2] at y2
                rcases g3 with g3 | ⟨g3', g3⟩
                · rw [g3] at y4
                  have hg3 : l.sign = 1 ∨ l.sign = -1 := .inl g3
                  have t5 : decide (l.id < 1) = false := by rw [decide_eq_false_iff_not]; exact g4
                  have t6 : decide (vi / 2 < l.id) = false := by rw [decide_eq_false_iff_not]; exact g5
                  have t7 : (cp != 1) = true := by rw [bne_iff_ne]; exact g6
                  have N := Lib.hid (NO.out (fun c => g6 (hno.out.1 c).2.2.2.2.2.1))
                  have HS1 : Hid (LtsS P f (.slice (some ⟨b, off, none⟩) q cap) L0 (0) (0) (l.id) (1) (l.over) wr wr) := ⟨x0, x1, y1, y2, y3, y4, y5, Below.refl _ _⟩
                  clear NO YES hno
                  clear g1 g2 g3 g4 g5
                  go_wp2_with fail
                  refine wp_region_held_drew (S := (fun w' => w'.cell? ⟨P, 0, none⟩ = some (.int .i64 f) ∧ w'.cell? ⟨P, 1, none⟩ = some (.slice (some ⟨b, off, none⟩) q cap) ∧ w'.cell? ⟨L0, 1, none⟩ = some (.int .i64 0) ∧ w'.cell? ⟨L0, 2, none⟩ = some (.int .i64 0) ∧ w'.cell? ⟨L0, 3, none⟩ = some (.int .i64 l.id) ∧ w'.cell? ⟨L0, 4, none⟩ = some (.int .i64 1) ∧ w'.cell? ⟨L0, 5, none⟩ = some (.bool l.over) ∧ Below wr.heap.size wr w')) (by kernel_rfl) ?_ (fun hHeld => ?_)
                  · exact LtsS.of hP hL0 HS1.out (Below.refl _ _).drew
                  refine takeLW 0 ltO0 (some 130) ?_ ?_ (by assumption) ?_
                  rotate_left
                  · (intro w hSw; dsimp only [ltO0] at hSw ⊢; go_simp <;> with_reducible rfl)
                  try simp only [Act.put, List.setIfInBounds_toArray, List.set_cons_zero, List.set_cons_succ]
                  refine takeLW 1 ltO1 (some 131) ?_ ?_ (by assumption) ?_
                  rotate_left
                  · (intro w hSw; dsimp only [ltO1] at hSw ⊢; go_simp <;> with_reducible rfl)
                  try simp only [Act.put, List.setIfInBounds_toArray, List.set_cons_zero, List.set_cons_succ]
                  refine takeLW 2 ltO2 (some 132) ?_ ?_ (by assumption) ?_
                  rotate_left
                  · (intro w hSw; dsimp only [ltO2] at hSw ⊢; go_simp <;> with_reducible rfl)
                  try simp only [Act.put, List.setIfInBounds_toArray, List.set_cons_zero, List.set_cons_succ]
                  refine takeLW 3 ltO3 (some 133) ?_ ?_ (by assumption) ?_
                  rotate_left
                  · (intro w hSw; dsimp only [ltO3] at hSw ⊢; go_simp <;> with_reducible rfl)
                  try simp only [Act.put, List.setIfInBounds_toArray, List.set_cons_zero, List.set_cons_succ]
                  refine takeLW 4 ltO4 (some 134) ?_ ?_ (by assumption) ?_
                  rotate_left
                  · (intro w hSw; dsimp only [ltO4] at hSw ⊢; go_simp <;> with_reducible rfl)
                  try simp only [Act.put, List.setIfInBounds_toArray, List.set_cons_zero, List.set_cons_succ]
                  refine takeLW 5 ltO5 (some 135) ?_ ?_ (by assumption) ?_
                  rotate_left
                  · (intro w hSw; dsimp only [ltO5] at hSw ⊢; go_simp <;> with_reducible rfl)
                  try simp only [Act.put, List.setIfInBounds_toArray, List.set_cons_zero, List.set_cons_succ]
                  refine takeLW 6 ltO6 (some 136) ?_ ?_ (by assumption) ?_
                  rotate_left
                  · (intro w hSw; dsimp only [ltO6] at hSw ⊢; go_simp <;> with_reducible rfl)
                  try simp only [Act.put, List.setIfInBounds_toArray, List.set_cons_zero, List.set_cons_succ]
                  refine takeLW 7 ltO7 (some 137) ?_ ?_ (by assumption) ?_
                  rotate_left
                  · (intro w hSw; dsimp only [ltO7] at hSw ⊢; go_simp <;> with_reducible rfl)
                  try simp only [Act.put, List.setIfInBounds_toArray, List.set_cons_zero, List.set_cons_succ]
                  refine takeLW 8 ltO8 (some 138) ?_ ?_ (by assumption) ?_
                  rotate_left
                  · (intro w hSw; dsimp only [ltO8] at hSw ⊢; go_simp <;> with_reducible rfl)
                  try simp only [Act.put, List.setIfInBounds_toArray, List.set_cons_zero, List.set_cons_succ]
                  refine takeLW 9 ltO9 (some 139) ?_ ?_ (by assumption) ?_
                  rotate_left
                  · (intro w hSw; dsimp only [ltO9] at hSw ⊢; go_simp <;> with_reducible rfl)
                  try simp only [Act.put, List.setIfInBounds_toArray, List.set_cons_zero, List.set_cons_succ]
                  refine takeLW 10 ltO10 (some 140) ?_ ?_ (by assumption) ?_
                  rotate_left
                  · (intro w hSw; dsimp only [ltO10] at hSw ⊢; go_simp <;> with_reducible rfl)
                  try simp only [Act.put, List.setIfInBounds_toArray, List.set_cons_zero, List.set_cons_succ]
                  refine takeLW 11 ltO11 (some 141) ?_ ?_ (by assumption) ?_
                  rotate_left
                  · (intro w hSw; dsimp only [ltO11] at hSw ⊢; go_simp <;> with_reducible rfl)
                  try simp only [Act.put, List.setIfInBounds_toArray, List.set_cons_zero, List.set_cons_succ]
                  refine takeLW 12 ltO12 (some 142) ?_ ?_ (by assumption) ?_
                  rotate_left
                  · (intro w hSw; dsimp only [ltO12] at hSw ⊢; go_simp <;> with_reducible rfl)
                  try simp only [Act.put, List.setIfInBounds_toArray, List.set_cons_zero, List.set_cons_succ]
                  refine takeLU 13 ltO13 (some 143) (by assumption) ?_
                  try simp only [Act.put, List.setIfInBounds_toArray, List.set_cons_zero, List.set_cons_succ]
                  refine takeLU 14 ltO14 (some 144) (by assumption) ?_
                  try simp only [Act.put, List.setIfInBounds_toArray, List.set_cons_zero, List.set_cons_succ]
                  refine takeLU 15 ltO15 (some 145) (by assumption) ?_
                  try simp only [Act.put, List.setIfInBounds_toArray, List.set_cons_zero, List.set_cons_succ]
                  refine takeLW 16 ltO16 (some 146) ?_ ?_ (by assumption) ?_
                  rotate_left
                  · (intro w hSw; dsimp only [ltO16] at hSw ⊢; go_simp <;> with_reducible rfl)
                  try simp only [Act.put, List.setIfInBounds_toArray, List.set_cons_zero, List.set_cons_succ]
                  refine takeLW 17 ltO17 (some 147) ?_ ?_ (by assumption) ?_
                  rotate_left
                  · (intro w hSw; dsimp only [ltO17] at hSw ⊢; go_simp <;> with_reducible rfl)
                  try simp only [Act.put, List.setIfInBounds_toArray, List.set_cons_zero, List.set_cons_succ]
                  refine takeLW 18 ltO18 (some 148) ?_ ?_ (by assumption) ?_
                  rotate_left
                  · (intro w hSw; dsimp only [ltO18] at hSw ⊢; go_simp <;> with_reducible rfl)
                  try simp only [Act.put, List.setIfInBounds_toArray, List.set_cons_zero, List.set_cons_succ]
                  refine takeLW 19 ltO19 (some 149) ?_ ?_ (by assumption) ?_
                  rotate_left
                  · (intro w hSw; dsimp only [ltO19] at hSw ⊢; go_simp <;> with_reducible rfl)
                  try simp only [Act.put, List.setIfInBounds_toArray, List.set_cons_zero, List.set_cons_succ]
                  refine takeLW 20 ltO20 (some 150) ?_ ?_ (by assumption) ?_
                  rotate_left
                  · (intro w hSw; dsimp only [ltO20] at hSw ⊢; go_simp <;> with_reducible rfl)
                  try simp only [Act.put, List.setIfInBounds_toArray, List.set_cons_zero, List.set_cons_succ]
                  refine takeLW 21 ltO21 (some 151) ?_ ?_ (by assumption) ?_
                  rotate_left
                  · (intro w hSw; dsimp only [ltO21] at hSw ⊢; go_simp <;> with_reducible rfl)
                  try simp only [Act.put, List.setIfInBounds_toArray, List.set_cons_zero, List.set_cons_succ]
                  refine takeLW 22 ltO22 (some 152) ?_ ?_ (by assumption) ?_
                  rotate_left
                  · (intro w hSw; dsimp only [ltO22] at hSw ⊢; go_simp <;> with_reducible rfl)
                  try simp only [Act.put, List.setIfInBounds_toArray, List.set_cons_zero, List.set_cons_succ]
                  refine takeLW 23 ltO23 (some 153) ?_ ?_ (by assumption) ?_
                  rotate_left
                  · (intro w hSw; dsimp only [ltO23] at hSw ⊢; go_simp <;> with_reducible rfl)
                  try simp only [Act.put, List.setIfInBounds_toArray, List.set_cons_zero, List.set_cons_succ]
                  refine takeLW 24 ltO24 (some 154) ?_ ?_ (by assumption) ?_
                  rotate_left
                  · (intro w hSw; dsimp only [ltO24] at hSw ⊢; go_simp <;> with_reducible rfl)
                  try simp only [Act.put, List.setIfInBounds_toArray, List.set_cons_zero, List.set_cons_succ]
                  refine takeLW 25 ltO25 (some 155) ?_ ?_ (by assumption) ?_
                  rotate_left
                  · (intro w hSw; dsimp only [ltO25] at hSw ⊢; go_simp <;> with_reducible rfl)
                  try simp only [Act.put, List.setIfInBounds_toArray, List.set_cons_zero, List.set_cons_succ]
                  refine takeLW 26 ltO26 (some 156) ?_ ?_ (by assumption) ?_
                  rotate_left
                  · (intro w hSw; dsimp only [ltO26] at hSw ⊢; go_simp <;> with_reducible rfl)
                  try simp only [Act.put, List.setIfInBounds_toArray, List.set_cons_zero, List.set_cons_succ]
                  refine wpAnyH_ready (rs := [27]) (by kernel_rfl) (by simp) ?_
                  refine AllReadyH.cons (o := { dst := some 157, op := Go.Op.call { callee := Go.Callee.value (Go.Operand.func 35), args := #[Go.Operand.tmp 156], argTypes := #[33] }, type := 3, pos := "ref.go:79", after := #[{ on := 26, ground := Go.Ground.data }, { on := 23, ground := Go.Ground.chain }, { on := 23, ground := Go.Ground.guard }], guard := some (23, false) }) rfl (fun K hK => ?_) AllReadyH.nil
                  go_simp
                  refine (HVI.out _ ?_).mono ?_
                  · exact (LtsS.last (P := P) (f := f) (vL := .slice (some ⟨b, off, none⟩) q cap) (L0 := L0) (vg := 0) (vr := 0) (vi := l.id) (vs := 1) (vo := l.over) (by assumption))
                  rintro e w2 ⟨rfl, hbw⟩
                  go_wp2_with fail
                  refine hK.out _ _ ?_ (fun hHeld => ?_)
                  · exact LtsS.of hP hL0 HS1.out ((LtsS.last (P := P) (f := f) (vL := .slice (some ⟨b, off, none⟩) q cap) (L0 := L0) (vg := 0) (vr := 0) (vi := l.id) (vs := 1) (vo := l.over) (by assumption)).trans (hbw.mono (LtsS.last (P := P) (f := f) (vL := .slice (some ⟨b, off, none⟩) q cap) (L0 := L0) (vg := 0) (vr := 0) (vi := l.id) (vs := 1) (vo := l.over) (by assumption)).size))
                  clear hK K hbw
                  try simp only [Act.put, List.setIfInBounds_toArray, List.set_cons_zero, List.set_cons_succ]
                  refine takeLW 28 ltO27 (some 158) ?_ ?_ (by assumption) ?_
                  rotate_left
                  · (intro w hSw; dsimp only [ltO27] at hSw ⊢; go_simp <;> with_reducible rfl)
                  try simp only [Act.put, List.setIfInBounds_toArray, List.set_cons_zero, List.set_cons_succ]
                  refine takeLW 29 ltO28 (some 159) ?_ ?_ (by assumption) ?_
                  rotate_left
                  · (intro w hSw; dsimp only [ltO28] at hSw ⊢; go_simp <;> with_reducible rfl)
                  try simp only [Act.put, List.setIfInBounds_toArray, List.set_cons_zero, List.set_cons_succ]
                  refine takeLW 30 ltO29 (some 160) ?_ ?_ (by assumption) ?_
                  rotate_left
                  · (intro w hSw; dsimp only [ltO29] at hSw ⊢; go_simp <;> with_reducible rfl)
                  try simp only [Act.put, List.setIfInBounds_toArray, List.set_cons_zero, List.set_cons_succ]
                  refine takeLW 31 ltO30 (some 161) ?_ ?_ (by assumption) ?_
                  rotate_left
                  · (intro w hSw; dsimp only [ltO30] at hSw ⊢; go_simp <;> with_reducible rfl)
                  try simp only [Act.put, List.setIfInBounds_toArray, List.set_cons_zero, List.set_cons_succ]
                  refine takeLW 32 ltO31 (some 162) ?_ ?_ (by assumption) ?_
                  rotate_left
                  · (intro w hSw; dsimp only [ltO31] at hSw ⊢; go_simp <;> with_reducible rfl)
                  try simp only [Act.put, List.setIfInBounds_toArray, List.set_cons_zero, List.set_cons_succ]
                  refine takeLW 33 ltO32 (some 163) ?_ ?_ (by assumption) ?_
                  rotate_left
                  · (intro w hSw; dsimp only [ltO32] at hSw ⊢; go_simp <;> with_reducible rfl)
                  try simp only [Act.put, List.setIfInBounds_toArray, List.set_cons_zero, List.set_cons_succ]
                  refine takeLW 34 ltO33 (some 164) ?_ ?_ (by assumption) ?_
                  rotate_left
                  · (intro w hSw; dsimp only [ltO33] at hSw ⊢; go_simp <;> with_reducible rfl)
                  try simp only [Act.put, List.setIfInBounds_toArray, List.set_cons_zero, List.set_cons_succ]
                  refine takeLW 35 ltO34 (some 165) ?_ ?_ (by assumption) ?_
                  rotate_left
                  · (intro w hSw; dsimp only [ltO34] at hSw ⊢; go_simp <;> with_reducible rfl)
                  try simp only [Act.put, List.setIfInBounds_toArray, List.set_cons_zero, List.set_cons_succ]
                  refine takeLU 36 ltO35 (some 166) (by assumption) ?_
                  try simp only [Act.put, List.setIfInBounds_toArray, List.set_cons_zero, List.set_cons_succ]
                  refine takeLU 37 ltO36 (some 167) (by assumption) ?_
                  try simp only [Act.put, List.setIfInBounds_toArray, List.set_cons_zero, List.set_cons_succ]
                  refine takeLU 38 ltO37 (some 168) (by assumption) ?_
                  try simp only [Act.put, List.setIfInBounds_toArray, List.set_cons_zero, List.set_cons_succ]
                  refine takeLU 39 ltO38 (some 169) (by assumption) ?_
                  try simp only [Act.put, List.setIfInBounds_toArray, List.set_cons_zero, List.set_cons_succ]
                  refine takeLU 40 ltO39 (some 170) (by assumption) ?_
                  try simp only [Act.put, List.setIfInBounds_toArray, List.set_cons_zero, List.set_cons_succ]
                  refine takeLW 41 ltO40 (some 171) ?_ ?_ (by assumption) ?_
                  rotate_left
                  · (intro w hSw; dsimp only [ltO40] at hSw ⊢; go_simp <;> with_reducible rfl)
                  try simp only [Act.put, List.setIfInBounds_toArray, List.set_cons_zero, List.set_cons_succ]
                  refine wpAnyH_done (by kernel_rfl) ?_ _
                  have hS : LtsS P f (.slice (some ⟨b, off, none⟩) q cap) L0 (0) (0) (l.id) (1) (l.over) wr w2 := by assumption
                  have HSS := Lib.hid hS.last
                  clear hS
                  go_wp2_with fail
                  go_ret
                  exact N.out _ HSS.out
                · rw [g3] at y4
                  have hg3 : l.sign = 1 ∨ l.sign = -1 := .inr g3
                  have t5 : decide (l.id < 1) = false := by rw [decide_eq_false_iff_not]; exact g4
                  have t6 : decide (vi / 2 < l.id) = false := by rw [decide_eq_false_iff_not]; exact g5
                  have t7 : (cp != 1) = true := by rw [bne_iff_ne]; exact g6
                  have N := Lib.hid (NO.out (fun c => g6 (hno.out.1 c).2.2.2.2.2.1))
                  have HS1 : Hid (LtsS P f (.slice (some ⟨b, off, none⟩) q cap) L0 (0) (0) (l.id) ((-1)) (l.over) wr wr) := ⟨x0, x1, y1, y2, y3, y4, y5, Below.refl _ _⟩
                  clear NO YES hno
                  clear g1 g2 g3 g4 g5
                  go_wp2_with fail
                  refine wp_region_held_drew (S := (fun w' => w'.cell? ⟨P, 0, none⟩ = some (.int .i64 f) ∧ w'.cell? ⟨P, 1, none⟩ = some (.slice (some ⟨b, off, none⟩) q cap) ∧ w'.cell? ⟨L0, 1, none⟩ = some (.int .i64 0) ∧ w'.cell? ⟨L0, 2, none⟩ = some (.int .i64 0) ∧ w'.cell? ⟨L0, 3, none⟩ = some (.int .i64 l.id) ∧ w'.cell? ⟨L0, 4, none⟩ = some (.int .i64 (-1)) ∧ w'.cell? ⟨L0, 5, none⟩ = some (.bool l.over) ∧ Below wr.heap.size wr w')) (by kernel_rfl) ?_ (fun hHeld => ?_)
                  · exact LtsS.of hP hL0 HS1.out (Below.refl _ _).drew
                  refine takeLW 0 ltO0 (some 130) ?_ ?_ (by assumption) ?_
                  rotate_left
                  · (intro w hSw; dsimp only [ltO0] at hSw ⊢; go_simp <;> with_reducible rfl)
                  try simp only [Act.put, List.setIfInBounds_toArray, List.set_cons_zero, List.set_cons_succ]
                  refine takeLW 1 ltO1 (some 131) ?_ ?_ (by assumption) ?_
                  rotate_left
                  · (intro w hSw; dsimp only [ltO1] at hSw ⊢; go_simp <;> with_reducible rfl)
                  try simp only [Act.put, List.setIfInBounds_toArray, List.set_cons_zero, List.set_cons_succ]
                  refine takeLW 2 ltO2 (some 132) ?_ ?_ (by assumption) ?_
                  rotate_left
                  · (intro w hSw; dsimp only [ltO2] at hSw ⊢; go_simp <;> with_reducible rfl)
                  try simp only [Act.put, List.setIfInBounds_toArray, List.set_cons_zero, List.set_cons_succ]
                  refine takeLW 3 ltO3 (some 133) ?_ ?_ (by assumption) ?_
                  rotate_left
                  · (intro w hSw; dsimp only [ltO3] at hSw ⊢; go_simp <;> with_reducible rfl)
                  try simp only [Act.put, List.setIfInBounds_toArray, List.set_cons_zero, List.set_cons_succ]
                  refine takeLW 4 ltO4 (some 134) ?_ ?_ (by assumption) ?_
                  rotate_left
                  · (intro w hSw; dsimp only [ltO4] at hSw ⊢; go_simp <;> with_reducible rfl)
                  try simp only [Act.put, List.setIfInBounds_toArray, List.set_cons_zero, List.set_cons_succ]
                  refine takeLW 5 ltO5 (some 135) ?_ ?_ (by assumption) ?_
                  rotate_left
                  · (intro w hSw; dsimp only [ltO5] at hSw ⊢; go_simp <;> with_reducible rfl)
                  try simp only [Act.put, List.setIfInBounds_toArray, List.set_cons_zero, List.set_cons_succ]
                  refine takeLW 6 ltO6 (some 136) ?_ ?_ (by assumption) ?_
                  rotate_left
                  · (intro w hSw; dsimp only [ltO6] at hSw ⊢; go_simp <;> with_reducible rfl)
                  try simp only [Act.put, List.setIfInBounds_toArray, List.set_cons_zero, List.set_cons_succ]
                  refine takeLW 7 ltO7 (some 137) ?_ ?_ (by assumption) ?_
                  rotate_left
                  · (intro w hSw; dsimp only [ltO7] at hSw ⊢; go_simp <;> with_reducible rfl)
                  try simp only [Act.put, List.setIfInBounds_toArray, List.set_cons_zero, List.set_cons_succ]
                  refine takeLW 8 ltO8 (some 138) ?_ ?_ (by assumption) ?_
                  rotate_left
                  · (intro w hSw; dsimp only [ltO8] at hSw ⊢; go_simp <;> with_reducible rfl)
                  try simp only [Act.put, List.setIfInBounds_toArray, List.set_cons_zero, List.set_cons_succ]
                  refine takeLW 9 ltO9 (some 139) ?_ ?_ (by assumption) ?_
                  rotate_left
                  · (intro w hSw; dsimp only [ltO9] at hSw ⊢; go_simp <;> with_reducible rfl)
                  try simp only [Act.put, List.setIfInBounds_toArray, List.set_cons_zero, List.set_cons_succ]
                  refine takeLW 10 ltO10 (some 140) ?_ ?_ (by assumption) ?_
                  rotate_left
                  · (intro w hSw; dsimp only [ltO10] at hSw ⊢; go_simp <;> with_reducible rfl)
                  try simp only [Act.put, List.setIfInBounds_toArray, List.set_cons_zero, List.set_cons_succ]
                  refine takeLW 11 ltO11 (some 141) ?_ ?_ (by assumption) ?_
                  rotate_left
                  · (intro w hSw; dsimp only [ltO11] at hSw ⊢; go_simp <;> with_reducible rfl)
                  try simp only [Act.put, List.setIfInBounds_toArray, List.set_cons_zero, List.set_cons_succ]
                  refine takeLW 12 ltO12 (some 142) ?_ ?_ (by assumption) ?_
                  rotate_left
                  · (intro w hSw; dsimp only [ltO12] at hSw ⊢; go_simp <;> with_reducible rfl)
                  try simp only [Act.put, List.setIfInBounds_toArray, List.set_cons_zero, List.set_cons_succ]
                  refine takeLW 13 ltO13 (some 143) ?_ ?_ (by assumption) ?_
                  rotate_left
                  · (intro w hSw; dsimp only [ltO13] at hSw ⊢; go_simp <;> with_reducible rfl)
                  try simp only [Act.put, List.setIfInBounds_toArray, List.set_cons_zero, List.set_cons_succ]
                  refine takeLW 14 ltO14 (some 144) ?_ ?_ (by assumption) ?_
                  rotate_left
                  · (intro w hSw; dsimp only [ltO14] at hSw ⊢; go_simp <;> with_reducible rfl)
                  try simp only [Act.put, List.setIfInBounds_toArray, List.set_cons_zero, List.set_cons_succ]
                  refine takeLW 15 ltO15 (some 145) ?_ ?_ (by assumption) ?_
                  rotate_left
                  · (intro w hSw; dsimp only [ltO15] at hSw ⊢; go_simp <;> with_reducible rfl)
                  try simp only [Act.put, List.setIfInBounds_toArray, List.set_cons_zero, List.set_cons_succ]
                  refine takeLW 16 ltO16 (some 146) ?_ ?_ (by assumption) ?_
                  rotate_left
                  · (intro w hSw; dsimp only [ltO16] at hSw ⊢; go_simp <;> with_reducible rfl)
                  try simp only [Act.put, List.setIfInBounds_toArray, List.set_cons_zero, List.set_cons_succ]
                  refine takeLW 17 ltO17 (some 147) ?_ ?_ (by assumption) ?_
                  rotate_left
                  · (intro w hSw; dsimp only [ltO17] at hSw ⊢; go_simp <;> with_reducible rfl)
                  try simp only [Act.put, List.setIfInBounds_toArray, List.set_cons_zero, List.set_cons_succ]
                  refine takeLW 18 ltO18 (some 148) ?_ ?_ (by assumption) ?_
                  rotate_left
                  · (intro w hSw; dsimp only [ltO18] at hSw ⊢; go_simp <;> with_reducible rfl)
                  try simp only [Act.put, List.setIfInBounds_toArray, List.set_cons_zero, List.set_cons_succ]
                  refine takeLW 19 ltO19 (some 149) ?_ ?_ (by assumption) ?_
                  rotate_left
                  · (intro w hSw; dsimp only [ltO19] at hSw ⊢; go_simp <;> with_reducible rfl)
                  try simp only [Act.put, List.setIfInBounds_toArray, List.set_cons_zero, List.set_cons_succ]
                  refine takeLW 20 ltO20 (some 150) ?_ ?_ (by assumption) ?_
                  rotate_left
                  · (intro w hSw; dsimp only [ltO20] at hSw ⊢; go_simp <;> with_reducible rfl)
                  try simp only [Act.put, List.setIfInBounds_toArray, List.set_cons_zero, List.set_cons_succ]
                  refine takeLW 21 ltO21 (some 151) ?_ ?_ (by assumption) ?_
                  rotate_left
                  · (intro w hSw; dsimp only [ltO21] at hSw ⊢; go_simp <;> with_reducible rfl)
                  try simp only [Act.put, List.setIfInBounds_toArray, List.set_cons_zero, List.set_cons_succ]
                  refine takeLW 22 ltO22 (some 152) ?_ ?_ (by assumption) ?_
                  rotate_left
                  · (intro w hSw; dsimp only [ltO22] at hSw ⊢; go_simp <;> with_reducible rfl)
                  try simp only [Act.put, List.setIfInBounds_toArray, List.set_cons_zero, List.set_cons_succ]
                  refine takeLW 23 ltO23 (some 153) ?_ ?_ (by assumption) ?_
                  rotate_left
                  · (intro w hSw; dsimp only [ltO23] at hSw ⊢; go_simp <;> with_reducible rfl)
                  try simp only [Act.put, List.setIfInBounds_toArray, List.set_cons_zero, List.set_cons_succ]
                  refine takeLW 24 ltO24 (some 154) ?_ ?_ (by assumption) ?_
                  rotate_left
                  · (intro w hSw; dsimp only [ltO24] at hSw ⊢; go_simp <;> with_reducible rfl)
                  try simp only [Act.put, List.setIfInBounds_toArray, List.set_cons_zero, List.set_cons_succ]
                  refine takeLW 25 ltO25 (some 155) ?_ ?_ (by assumption) ?_
                  rotate_left
                  · (intro w hSw; dsimp only [ltO25] at hSw ⊢; go_simp <;> with_reducible rfl)
                  try simp only [Act.put, List.setIfInBounds_toArray, List.set_cons_zero, List.set_cons_succ]
                  refine takeLW 26 ltO26 (some 156) ?_ ?_ (by assumption) ?_
                  rotate_left
                  · (intro w hSw; dsimp only [ltO26] at hSw ⊢; go_simp <;> with_reducible rfl)
                  try simp only [Act.put, List.setIfInBounds_toArray, List.set_cons_zero, List.set_cons_succ]
                  refine wpAnyH_ready (rs := [27]) (by kernel_rfl) (by simp) ?_
                  refine AllReadyH.cons (o := { dst := some 157, op := Go.Op.call { callee := Go.Callee.value (Go.Operand.func 35), args := #[Go.Operand.tmp 156], argTypes := #[33] }, type := 3, pos := "ref.go:79", after := #[{ on := 26, ground := Go.Ground.data }, { on := 23, ground := Go.Ground.chain }, { on := 23, ground := Go.Ground.guard }], guard := some (23, false) }) rfl (fun K hK => ?_) AllReadyH.nil
                  go_simp
                  refine (HVI.out _ ?_).mono ?_
                  · exact (LtsS.last (P := P) (f := f) (vL := .slice (some ⟨b, off, none⟩) q cap) (L0 := L0) (vg := 0) (vr := 0) (vi := l.id) (vs := (-1)) (vo := l.over) (by assumption))
                  rintro e w2 ⟨rfl, hbw⟩
                  go_wp2_with fail
                  refine hK.out _ _ ?_ (fun hHeld => ?_)
                  · exact LtsS.of hP hL0 HS1.out ((LtsS.last (P := P) (f := f) (vL := .slice (some ⟨b, off, none⟩) q cap) (L0 := L0) (vg := 0) (vr := 0) (vi := l.id) (vs := (-1)) (vo := l.over) (by assumption)).trans (hbw.mono (LtsS.last (P := P) (f := f) (vL := .slice (some ⟨b, off, none⟩) q cap) (L0 := L0) (vg := 0) (vr := 0) (vi := l.id) (vs := (-1)) (vo := l.over) (by assumption)).size))
                  clear hK K hbw
                  try simp only [Act.put, List.setIfInBounds_toArray, List.set_cons_zero, List.set_cons_succ]
                  refine takeLW 28 ltO27 (some 158) ?_ ?_ (by assumption) ?_
                  rotate_left
                  · (intro w hSw; dsimp only [ltO27] at hSw ⊢; go_simp <;> with_reducible rfl)
                  try simp only [Act.put, List.setIfInBounds_toArray, List.set_cons_zero, List.set_cons_succ]
                  refine takeLW 29 ltO28 (some 159) ?_ ?_ (by assumption) ?_
                  rotate_left
                  · (intro w hSw; dsimp only [ltO28] at hSw ⊢; go_simp <;> with_reducible rfl)
                  try simp only [Act.put, List.setIfInBounds_toArray, List.set_cons_zero, List.set_cons_succ]
                  refine takeLW 30 ltO29 (some 160) ?_ ?_ (by assumption) ?_
                  rotate_left
                  · (intro w hSw; dsimp only [ltO29] at hSw ⊢; go_simp <;> with_reducible rfl)
                  try simp only [Act.put, List.setIfInBounds_toArray, List.set_cons_zero, List.set_cons_succ]
                  refine takeLW 31 ltO30 (some 161) ?_ ?_ (by assumption) ?_
                  rotate_left
                  · (intro w hSw; dsimp only [ltO30] at hSw ⊢; go_simp <;> with_reducible rfl)
                  try simp only [Act.put, List.setIfInBounds_toArray, List.set_cons_zero, List.set_cons_succ]
                  refine takeLW 32 ltO31 (some 162) ?_ ?_ (by assumption) ?_
                  rotate_left
                  · (intro w hSw; dsimp only [ltO31] at hSw ⊢; go_simp <;> with_reducible rfl)
                  try simp only [Act.put, List.setIfInBounds_toArray, List.set_cons_zero, List.set_cons_succ]
                  refine takeLW 33 ltO32 (some 163) ?_ ?_ (by assumption) ?_
                  rotate_left
                  · (intro w hSw; dsimp only [ltO32] at hSw ⊢; go_simp <;> with_reducible rfl)
                  try simp only [Act.put, List.setIfInBounds_toArray, List.set_cons_zero, List.set_cons_succ]
                  refine takeLW 34 ltO33 (some 164) ?_ ?_ (by assumption) ?_
                  rotate_left
                  · (intro w hSw; dsimp only [ltO33] at hSw ⊢; go_simp <;> with_reducible rfl)
                  try simp only [Act.put, List.setIfInBounds_toArray, List.set_cons_zero, List.set_cons_succ]
                  refine takeLW 35 ltO34 (some 165) ?_ ?_ (by assumption) ?_
                  rotate_left
                  · (intro w hSw; dsimp only [ltO34] at hSw ⊢; go_simp <;> with_reducible rfl)
                  try simp only [Act.put, List.setIfInBounds_toArray, List.set_cons_zero, List.set_cons_succ]
                  refine takeLU 36 ltO35 (some 166) (by assumption) ?_
                  try simp only [Act.put, List.setIfInBounds_toArray, List.set_cons_zero, List.set_cons_succ]
                  refine takeLU 37 ltO36 (some 167) (by assumption) ?_
                  try simp only [Act.put, List.setIfInBounds_toArray, List.set_cons_zero, List.set_cons_succ]
                  refine takeLU 38 ltO37 (some 168) (by assumption) ?_
                  try simp only [Act.put, List.setIfInBounds_toArray, List.set_cons_zero, List.set_cons_succ]
                  refine takeLU 39 ltO38 (some 169) (by assumption) ?_
                  try simp only [Act.put, List.setIfInBounds_toArray, List.set_cons_zero, List.set_cons_succ]
                  refine takeLU 40 ltO39 (some 170) (by assumption) ?_
                  try simp only [Act.put, List.setIfInBounds_toArray, List.set_cons_zero, List.set_cons_succ]
                  refine takeLW 41 ltO40 (some 171) ?_ ?_ (by assumption) ?_
                  rotate_left
                  · (intro w hSw; dsimp only [ltO40] at hSw ⊢; go_simp <;> with_reducible rfl)
                  try simp only [Act.put, List.setIfInBounds_toArray, List.set_cons_zero, List.set_cons_succ]
                  refine wpAnyH_done (by kernel_rfl) ?_ _
                  have hS : LtsS P f (.slice (some ⟨b, off, none⟩) q cap) L0 (0) (0) (l.id) ((-1)) (l.over) wr w2 := by assumption
                  have HSS := Lib.hid hS.last
                  clear hS
                  go_wp2_with fail
                  go_ret
                  exact N.out _ HSS.out
              · as_aux_lemma =>
                rw [g1] at y1
                rw [g2] at y2
                rcases g3 with g3 | ⟨g3', g3⟩
                · rw [g3] at y4
                  have hg3 : l.sign = 1 ∨ l.sign = -1 := .inl g3
                  have t5 : decide (l.id < 1) = false := by rw [decide_eq_false_iff_not]; exact g4
                  have t6 : decide (vi / 2 < l.id) = false := by rw [decide_eq_false_iff_not]; exact g5
                  have t7 : (cp != 1) = false := by rw [bne_eq_false_iff_eq]; exact g6
                  have t8 : (ti != 2) = true := by rw [bne_iff_ne]; exact g7
                  have N := Lib.hid (NO.out (fun c => g7 (hno.out.1 c).2.2.2.2.2.2))
                  have HS1 : Hid (LtsS P f (.slice (some ⟨b, off, none⟩) q cap) L0 (0) (0) (l.id) (1) (l.over) wr wr) := ⟨x0, x1, y1, y2, y3, y4, y5, Below.refl _ _⟩
                  clear NO YES hno
                  clear g1 g2 g3 g4 g5
                  go_wp2_with fail
                  refine wp_region_held_drew (S := (fun w' => w'.cell? ⟨P, 0, none⟩ = some (.int .i64 f) ∧ w'.cell? ⟨P, 1, none⟩ = some (.slice (some ⟨b, off, none⟩) q cap) ∧ w'.cell? ⟨L0, 1, none⟩ = some (.int .i64 0) ∧ w'.cell? ⟨L0, 2, none⟩ = some (.int .i64 0) ∧ w'.cell? ⟨L0, 3, none⟩ = some (.int .i64 l.id) ∧ w'.cell? ⟨L0, 4, none⟩ = some (.int .i64 1) ∧ w'.cell? ⟨L0, 5, none⟩ = some (.bool l.over) ∧ Below wr.heap.size wr w')) (by kernel_rfl) ?_ (fun hHeld => ?_)
                  · exact LtsS.of hP hL0 HS1.out (Below.refl _ _).drew
                  refine takeLW 0 ltO0 (some 130) ?_ ?_ (by assumption) ?_
                  rotate_left
                  · (intro w hSw; dsimp only [ltO0] at hSw ⊢; go_simp <;> with_reducible rfl)
                  try simp only [Act.put, List.setIfInBounds_toArray, List.set_cons_zero, List.set_cons_succ]
                  refine takeLW 1 ltO1 (some 131) ?_ ?_ (by assumption) ?_
                  rotate_left
                  · (intro w hSw; dsimp only [ltO1] at hSw ⊢; go_simp <;> with_reducible rfl)
                  try simp only [Act.put, List.setIfInBounds_toArray, List.set_cons_zero, List.set_cons_succ]
                  refine takeLW 2 ltO2 (some 132) ?_ ?_ (by assumption) ?_
                  rotate_left
                  · (intro w hSw; dsimp only [ltO2] at hSw ⊢; go_simp <;> with_reducible rfl)
                  try simp only [Act.put, List.setIfInBounds_toArray, List.set_cons_zero, List.set_cons_succ]
                  refine takeLW 3 ltO3 (some 133) ?_ ?_ (by assumption) ?_
                  rotate_left
                  · (intro w hSw; dsimp only [ltO3] at hSw ⊢; go_simp <;> with_reducible rfl)
                  try simp only [Act.put, List.setIfInBounds_toArray, List.set_cons_zero, List.set_cons_succ]
                  refine takeLW 4 ltO4 (some 134) ?_ ?_ (by assumption) ?_
                  rotate_left
                  · (intro w hSw; dsimp only [ltO4] at hSw ⊢; go_simp <;> with_reducible rfl)
                  try simp only [Act.put, List.setIfInBounds_toArray, List.set_cons_zero, List.set_cons_succ]
                  refine takeLW 5 ltO5 (some 135) ?_ ?_ (by assumption) ?_
                  rotate_left
                  · (intro w hSw; dsimp only [ltO5] at hSw ⊢; go_simp <;> with_reducible rfl)
                  try simp only [Act.put, List.setIfInBounds_toArray, List.set_cons_zero, List.set_cons_succ]
                  refine takeLW 6 ltO6 (some 136) ?_ ?_ (by assumption) ?_
                  rotate_left
                  · (intro w hSw; dsimp only [ltO6] at hSw ⊢; go_simp <;> with_reducible rfl)
                  try simp only [Act.put, List.setIfInBounds_toArray, List.set_cons_zero, List.set_cons_succ]
                  refine takeLW 7 ltO7 (some 137) ?_ ?_ (by assumption) ?_
                  rotate_left
                  · (intro w hSw; dsimp only [ltO7] at hSw ⊢; go_simp <;> with_reducible rfl)
                  try simp only [Act.put, List.setIfInBounds_toArray, List.set_cons_zero, List.set_cons_succ]
                  refine takeLW 8 ltO8 (some 138) ?_ ?_ (by assumption) ?_
                  rotate_left
                  · (intro w hSw; dsimp only [ltO8] at hSw ⊢; go_simp <;> with_reducible rfl)
                  try simp only [Act.put, List.setIfInBounds_toArray, List.set_cons_zero, List.set_cons_succ]
                  refine takeLW 9 ltO9 (some 139) ?_ ?_ (by assumption) ?_
                  rotate_left
                  · (intro w hSw; dsimp only [ltO9] at hSw ⊢; go_simp <;> with_reducible rfl)
                  try simp only [Act.put, List.setIfInBounds_toArray, List.set_cons_zero, List.set_cons_succ]
                  refine takeLW 10 ltO10 (some 140) ?_ ?_ (by assumption) ?_
                  rotate_left
                  · (intro w hSw; dsimp only [ltO10] at hSw ⊢; go_simp <;> with_reducible rfl)
                  try simp only [Act.put, List.setIfInBounds_toArray, List.set_cons_zero, List.set_cons_succ]
                  refine takeLW 11 ltO11 (some 141) ?_ ?_ (by assumption) ?_
                  rotate_left
                  · (intro w hSw; dsimp only [ltO11] at hSw ⊢; go_simp <;> with_reducible rfl)
                  try simp only [Act.put, List.setIfInBounds_toArray, List.set_cons_zero, List.set_cons_succ]
                  refine takeLW 12 ltO12 (some 142) ?_ ?_ (by assumption) ?_
                  rotate_left
                  · (intro w hSw; dsimp only [ltO12] at hSw ⊢; go_simp <;> with_reducible rfl)
                  try simp only [Act.put, List.setIfInBounds_toArray, List.set_cons_zero, List.set_cons_succ]
                  refine takeLU 13 ltO13 (some 143) (by assumption) ?_
                  try simp only [Act.put, List.setIfInBounds_toArray, List.set_cons_zero, List.set_cons_succ]
                  refine takeLU 14 ltO14 (some 144) (by assumption) ?_
                  try simp only [Act.put, List.setIfInBounds_toArray, List.set_cons_zero, List.set_cons_succ]
                  refine takeLU 15 ltO15 (some 145) (by assumption) ?_
                  try simp only [Act.put, List.setIfInBounds_toArray, List.set_cons_zero, List.set_cons_succ]
                  refine takeLW 16 ltO16 (some 146) ?_ ?_ (by assumption) ?_
                  rotate_left
                  · (intro w hSw; dsimp only [ltO16] at hSw ⊢; go_simp <;> with_reducible rfl)
                  try simp only [Act.put, List.setIfInBounds_toArray, List.set_cons_zero, List.set_cons_succ]
                  refine takeLW 17 ltO17 (some 147) ?_ ?_ (by assumption) ?_
                  rotate_left
                  · (intro w hSw; dsimp only [ltO17] at hSw ⊢; go_simp <;> with_reducible rfl)
                  try simp only [Act.put, List.setIfInBounds_toArray, List.set_cons_zero, List.set_cons_succ]
                  refine takeLW 18 ltO18 (some 148) ?_ ?_ (by assumption) ?_
                  rotate_left
                  · (intro w hSw; dsimp only [ltO18] at hSw ⊢; go_simp <;> with_reducible rfl)
                  try simp only [Act.put, List.setIfInBounds_toArray, List.set_cons_zero, List.set_cons_succ]
                  refine takeLW 19 ltO19 (some 149) ?_ ?_ (by assumption) ?_
                  rotate_left
                  · (intro w hSw; dsimp only [ltO19] at hSw ⊢; go_simp <;> with_reducible rfl)
                  try simp only [Act.put, List.setIfInBounds_toArray, List.set_cons_zero, List.set_cons_succ]
                  refine takeLW 20 ltO20 (some 150) ?_ ?_ (by assumption) ?_
                  rotate_left
                  · (intro w hSw; dsimp only [ltO20] at hSw ⊢; go_simp <;> with_reducible rfl)
                  try simp only [Act.put, List.setIfInBounds_toArray, List.set_cons_zero, List.set_cons_succ]
                  refine takeLW 21 ltO21 (some 151) ?_ ?_ (by assumption) ?_
                  rotate_left
                  · (intro w hSw; dsimp only [ltO21] at hSw ⊢; go_simp <;> with_reducible rfl)
                  try simp only [Act.put, List.setIfInBounds_toArray, List.set_cons_zero, List.set_cons_succ]
                  refine takeLW 22 ltO22 (some 152) ?_ ?_ (by assumption) ?_
                  rotate_left
                  · (intro w hSw; dsimp only [ltO22] at hSw ⊢; go_simp <;> with_reducible rfl)
                  try simp only [Act.put, List.setIfInBounds_toArray, List.set_cons_zero, List.set_cons_succ]
                  refine takeLW 23 ltO23 (some 153) ?_ ?_ (by assumption) ?_
                  rotate_left
                  · (intro w hSw; dsimp only [ltO23] at hSw ⊢; go_simp <;> with_reducible rfl)
                  try simp only [Act.put, List.setIfInBounds_toArray, List.set_cons_zero, List.set_cons_succ]
                  refine takeLW 24 ltO24 (some 154) ?_ ?_ (by assumption) ?_
                  rotate_left
                  · (intro w hSw; dsimp only [ltO24] at hSw ⊢; go_simp <;> with_reducible rfl)
                  try simp only [Act.put, List.setIfInBounds_toArray, List.set_cons_zero, List.set_cons_succ]
                  refine takeLW 25 ltO25 (some 155) ?_ ?_ (by assumption) ?_
                  rotate_left
                  · (intro w hSw; dsimp only [ltO25] at hSw ⊢; go_simp <;> with_reducible rfl)
                  try simp only [Act.put, List.setIfInBounds_toArray, List.set_cons_zero, List.set_cons_succ]
                  refine takeLW 26 ltO26 (some 156) ?_ ?_ (by assumption) ?_
                  rotate_left
                  · (intro w hSw; dsimp only [ltO26] at hSw ⊢; go_simp <;> with_reducible rfl)
                  try simp only [Act.put, List.setIfInBounds_toArray, List.set_cons_zero, List.set_cons_succ]
                  refine wpAnyH_ready (rs := [27]) (by kernel_rfl) (by simp) ?_
                  refine AllReadyH.cons (o := { dst := some 157, op := Go.Op.call { callee := Go.Callee.value (Go.Operand.func 35), args := #[Go.Operand.tmp 156], argTypes := #[33] }, type := 3, pos := "ref.go:79", after := #[{ on := 26, ground := Go.Ground.data }, { on := 23, ground := Go.Ground.chain }, { on := 23, ground := Go.Ground.guard }], guard := some (23, false) }) rfl (fun K hK => ?_) AllReadyH.nil
                  go_simp
                  refine (HVI.out _ ?_).mono ?_
                  · exact (LtsS.last (P := P) (f := f) (vL := .slice (some ⟨b, off, none⟩) q cap) (L0 := L0) (vg := 0) (vr := 0) (vi := l.id) (vs := 1) (vo := l.over) (by assumption))
                  rintro e w2 ⟨rfl, hbw⟩
                  go_wp2_with fail
                  refine hK.out _ _ ?_ (fun hHeld => ?_)
                  · exact LtsS.of hP hL0 HS1.out ((LtsS.last (P := P) (f := f) (vL := .slice (some ⟨b, off, none⟩) q cap) (L0 := L0) (vg := 0) (vr := 0) (vi := l.id) (vs := 1) (vo := l.over) (by assumption)).trans (hbw.mono (LtsS.last (P := P) (f := f) (vL := .slice (some ⟨b, off, none⟩) q cap) (L0 := L0) (vg := 0) (vr := 0) (vi := l.id) (vs := 1) (vo := l.over) (by assumption)).size))
                  clear hK K hbw
                  try simp only [Act.put, List.setIfInBounds_toArray, List.set_cons_zero, List.set_cons_succ]
                  refine takeLW 28 ltO27 (some 158) ?_ ?_ (by assumption) ?_
                  rotate_left
                  · (intro w hSw; dsimp only [ltO27] at hSw ⊢; go_simp <;> with_reducible rfl)
                  try simp only [Act.put, List.setIfInBounds_toArray, List.set_cons_zero, List.set_cons_succ]
                  refine takeLW 29 ltO28 (some 159) ?_ ?_ (by assumption) ?_
                  rotate_left
                  · (intro w hSw; dsimp only [ltO28] at hSw ⊢; go_simp <;> with_reducible rfl)
                  try simp only [Act.put, List.setIfInBounds_toArray, List.set_cons_zero, List.set_cons_succ]
                  refine takeLW 30 ltO29 (some 160) ?_ ?_ (by assumption) ?_
                  rotate_left
                  · (intro w hSw; dsimp only [ltO29] at hSw ⊢; go_simp <;> with_reducible rfl)
                  try simp only [Act.put, List.setIfInBounds_toArray, List.set_cons_zero, List.set_cons_succ]
                  refine takeLW 31 ltO30 (some 161) ?_ ?_ (by assumption) ?_
                  rotate_left
                  · (intro w hSw; dsimp only [ltO30] at hSw ⊢; go_simp <;> with_reducible rfl)
                  try simp only [Act.put, List.setIfInBounds_toArray, List.set_cons_zero, List.set_cons_succ]
                  refine takeLW 32 ltO31 (some 162) ?_ ?_ (by assumption) ?_
                  rotate_left
                  · (intro w hSw; dsimp only [ltO31] at hSw ⊢; go_simp <;> with_reducible rfl)
                  try simp only [Act.put, List.setIfInBounds_toArray, List.set_cons_zero, List.set_cons_succ]
                  refine takeLW 33 ltO32 (some 163) ?_ ?_ (by assumption) ?_
                  rotate_left
                  · (intro w hSw; dsimp only [ltO32] at hSw ⊢; go_simp <;> with_reducible rfl)
                  try simp only [Act.put, List.setIfInBounds_toArray, List.set_cons_zero, List.set_cons_succ]
                  refine takeLW 34 ltO33 (some 164) ?_ ?_ (by assumption) ?_
                  rotate_left
                  · (intro w hSw; dsimp only [ltO33] at hSw ⊢; go_simp <;> with_reducible rfl)
                  try simp only [Act.put, List.setIfInBounds_toArray, List.set_cons_zero, List.set_cons_succ]
                  refine takeLW 35 ltO34 (some 165) ?_ ?_ (by assumption) ?_
                  rotate_left
                  · (intro w hSw; dsimp only [ltO34] at hSw ⊢; go_simp <;> with_reducible rfl)
                  try simp only [Act.put, List.setIfInBounds_toArray, List.set_cons_zero, List.set_cons_succ]
                  refine takeLW 36 ltO35 (some 166) ?_ ?_ (by assumption) ?_
                  rotate_left
                  · (intro w hSw; dsimp only [ltO35] at hSw ⊢; go_simp <;> with_reducible rfl)
                  try simp only [Act.put, List.setIfInBounds_toArray, List.set_cons_zero, List.set_cons_succ]
                  refine takeLW 37 ltO36 (some 167) ?_ ?_ (by assumption) ?_
                  rotate_left
                  · (intro w hSw; dsimp only [ltO36] at hSw ⊢; go_simp <;> with_reducible rfl)
                  try simp only [Act.put, List.setIfInBounds_toArray, List.set_cons_zero, List.set_cons_succ]
                  refine takeLW 38 ltO37 (some 168) ?_ ?_ (by assumption) ?_
                  rotate_left
                  · (intro w hSw; dsimp only [ltO37] at hSw ⊢; go_simp <;> with_reducible rfl)
                  try simp only [Act.put, List.setIfInBounds_toArray, List.set_cons_zero, List.set_cons_succ]
                  refine wpAnyH_ready (rs := [39]) (by kernel_rfl) (by simp) ?_
                  refine AllReadyH.cons (o := { dst := some 169, op := Go.Op.call { callee := Go.Callee.value (Go.Operand.func 70), args := #[Go.Operand.tmp 166, Go.Operand.tmp 168], argTypes := #[33, 3] }, type := 3, pos := "ref.go:79", after := #[{ on := 36, ground := Go.Ground.data }, { on := 38, ground := Go.Ground.data }, { on := 35, ground := Go.Ground.chain }, { on := 35, ground := Go.Ground.guard }], guard := some (35, false) }) rfl (fun K hK => ?_) AllReadyH.nil
                  go_simp
                  refine (HTI.out _ ?_).mono ?_
                  · exact (LtsS.last (P := P) (f := f) (vL := .slice (some ⟨b, off, none⟩) q cap) (L0 := L0) (vg := 0) (vr := 0) (vi := l.id) (vs := 1) (vo := l.over) (by assumption))
                  rintro e w3 ⟨rfl, hbw⟩
                  go_wp2_with fail
                  refine hK.out _ _ ?_ (fun hHeld => ?_)
                  · exact LtsS.of hP hL0 HS1.out ((LtsS.last (P := P) (f := f) (vL := .slice (some ⟨b, off, none⟩) q cap) (L0 := L0) (vg := 0) (vr := 0) (vi := l.id) (vs := 1) (vo := l.over) (by assumption)).trans (hbw.mono (LtsS.last (P := P) (f := f) (vL := .slice (some ⟨b, off, none⟩) q cap) (L0 := L0) (vg := 0) (vr := 0) (vi := l.id) (vs := 1) (vo := l.over) (by assumption)).size))
                  clear hK K hbw
                  try simp only [Act.put, List.setIfInBounds_toArray, List.set_cons_zero, List.set_cons_succ]
                  refine takeLW 40 ltO39 (some 170) ?_ ?_ (by assumption) ?_
                  rotate_left
                  · (intro w hSw; dsimp only [ltO39] at hSw ⊢; go_simp <;> with_reducible rfl)
                  try simp only [Act.put, List.setIfInBounds_toArray, List.set_cons_zero, List.set_cons_succ]
                  refine takeLW 41 ltO40 (some 171) ?_ ?_ (by assumption) ?_
                  rotate_left
                  · (intro w hSw; dsimp only [ltO40] at hSw ⊢; go_simp <;> with_reducible rfl)
                  try simp only [Act.put, List.setIfInBounds_toArray, List.set_cons_zero, List.set_cons_succ]
                  refine wpAnyH_done (by kernel_rfl) ?_ _
                  have hS : LtsS P f (.slice (some ⟨b, off, none⟩) q cap) L0 (0) (0) (l.id) (1) (l.over) wr w3 := by assumption
                  have HSS := Lib.hid hS.last
                  clear hS
                  go_wp2_with fail
                  go_ret
                  exact N.out _ HSS.out
                · rw [g3] at y4
                  have hg3 : l.sign = 1 ∨ l.sign = -1 := .inr g3
                  have t5 : decide (l.id < 1) = false := by rw [decide_eq_false_iff_not]; exact g4
                  have t6 : decide (vi / 2 < l.id) = false := by rw [decide_eq_false_iff_not]; exact g5
                  have t7 : (cp != 1) = false := by rw [bne_eq_false_iff_eq]; exact g6
                  have t8 : (ti != 2) = true := by rw [bne_iff_ne]; exact g7
                  have N := Lib.hid (NO.out (fun c => g7 (hno.out.1 c).2.2.2.2.2.2))
                  have HS1 : Hid (LtsS P f (.slice (some ⟨b, off, none⟩) q cap) L0 (0) (0) (l.id) ((-1)) (l.over) wr wr) := ⟨x0, x1, y1, y2, y3, y4, y5, Below.refl _ _⟩
                  clear NO YES hno
                  clear g1 g2 g3 g4 g5
                  go_wp2_with fail
                  refine wp_region_held_drew (S := (fun w' => w'.cell? ⟨P, 0, none⟩ = some (.int .i64 f) ∧ w'.cell? ⟨P, 1, none⟩ = some (.slice (some ⟨b, off, none⟩) q cap) ∧ w'.cell? ⟨L0, 1, none⟩ = some (.int .i64 0) ∧ w'.cell? ⟨L0, 2, none⟩ = some (.int .i64 0) ∧ w'.cell? ⟨L0, 3, none⟩ = some (.int .i64 l.id) ∧ w'.cell? ⟨L0, 4, none⟩ = some (.int .i64 (-1)) ∧ w'.cell? ⟨L0, 5, none⟩ = some (.bool l.over) ∧ Below wr.heap.size wr w')) (by kernel_rfl) ?_ (fun hHeld => ?_)
                  · exact LtsS.of hP hL0 HS1.out (Below.refl _ _).drew
                  refine takeLW 0 ltO0 (some 130) ?_ ?_ (by assumption) ?_
                  rotate_left
                  · (intro w hSw; dsimp only [ltO0] at hSw ⊢; go_simp <;> with_reducible rfl)
                  try simp only [Act.put, List.setIfInBounds_toArray, List.set_cons_zero, List.set_cons_succ]
                  refine takeLW 1 ltO1 (some 131) ?_ ?_ (by assumption) ?_
                  rotate_left
                  · (intro w hSw; dsimp only [ltO1] at hSw ⊢; go_simp <;> with_reducible rfl)
                  try simp only [Act.put, List.setIfInBounds_toArray, List.set_cons_zero, List.set_cons_succ]
                  refine takeLW 2 ltO2 (some 132) ?_ ?_ (by assumption) ?_
                  rotate_left
                  · (intro w hSw; dsimp only [ltO2] at hSw ⊢; go_simp <;> with_reducible rfl)
                  try simp only [Act.put, List.setIfInBounds_toArray, List.set_cons_zero, List.set_cons_succ]
                  refine takeLW 3 ltO3 (some 133) ?_ ?_ (by assumption) ?_
                  rotate_left
                  · (intro w hSw; dsimp only [ltO3] at hSw ⊢; go_simp <;> with_reducible rfl)
                  try simp only [Act.put, List.setIfInBounds_toArray, List.set_cons_zero, List.set_cons_succ]
                  refine takeLW 4 ltO4 (some 134) ?_ ?_ (by assumption) ?_
                  rotate_left
                  · (intro w hSw; dsimp only [ltO4] at hSw ⊢; go_simp <;> with_reducible rfl)
                  try simp only [Act.put, List.setIfInBounds_toArray, List.set_cons_zero, List.set_cons_succ]
                  refine takeLW 5 ltO5 (some 135) ?_ ?_ (by assumption) ?_
                  rotate_left
                  · (intro w hSw; dsimp only [ltO5] at hSw ⊢; go_simp <;> with_reducible rfl)
                  try simp only [Act.put, List.setIfInBounds_toArray, List.set_cons_zero, List.set_cons_succ]
                  refine takeLW 6 ltO6 (some 136) ?_ ?_ (by assumption) ?_
                  rotate_left
                  · (intro w hSw; dsimp only [ltO6] at hSw ⊢; go_simp <;> with_reducible rfl)
                  try simp only [Act.put, List.setIfInBounds_toArray, List.set_cons_zero, List.set_cons_succ]
                  refine takeLW 7 ltO7 (some 137) ?_ ?_ (by assumption) ?_
                  rotate_left
                  · (intro w hSw; dsimp only [ltO7] at hSw ⊢; go_simp <;> with_reducible rfl)
                  try simp only [Act.put, List.setIfInBounds_toArray, List.set_cons_zero, List.set_cons_succ]
                  refine takeLW 8 ltO8 (some 138) ?_ ?_ (by assumption) ?_
                  rotate_left
                  · (intro w hSw; dsimp only [ltO8] at hSw ⊢; go_simp <;> with_reducible rfl)
                  try simp only [Act.put, List.setIfInBounds_toArray, List.set_cons_zero, List.set_cons_succ]
                  refine takeLW 9 ltO9 (some 139) ?_ ?_ (by assumption) ?_
                  rotate_left
                  · (intro w hSw; dsimp only [ltO9] at hSw ⊢; go_simp <;> with_reducible rfl)
                  try simp only [Act.put, List.setIfInBounds_toArray, List.set_cons_zero, List.set_cons_succ]
                  refine takeLW 10 ltO10 (some 140) ?_ ?_ (by assumption) ?_
                  rotate_left
                  · (intro w hSw; dsimp only [ltO10] at hSw ⊢; go_simp <;> with_reducible rfl)
                  try simp only [Act.put, List.setIfInBounds_toArray, List.set_cons_zero, List.set_cons_succ]
                  refine takeLW 11 ltO11 (some 141) ?_ ?_ (by assumption) ?_
                  rotate_left
                  · (intro w hSw; dsimp only [ltO11] at hSw ⊢; go_simp <;> with_reducible rfl)
                  try simp only [Act.put, List.setIfInBounds_toArray, List.set_cons_zero, List.set_cons_succ]
                  refine takeLW 12 ltO12 (some 142) ?_ ?_ (by assumption) ?_
                  rotate_left
                  · (intro w hSw; dsimp only [ltO12] at hSw ⊢; go_simp <;> with_reducible rfl)
                  try simp only [Act.put, List.setIfInBounds_toArray, List.set_cons_zero, List.set_cons_succ]
                  refine takeLW 13 ltO13 (some 143) ?_ ?_ (by assumption) ?_
                  rotate_left
                  · (intro w hSw; dsimp only [ltO13] at hSw ⊢; go_simp <;> with_reducible rfl)
                  try simp only [Act.put, List.setIfInBounds_toArray, List.set_cons_zero, List.set_cons_succ]
                  refine takeLW 14 ltO14 (some 144) ?_ ?_ (by assumption) ?_
                  rotate_left
                  · (intro w hSw; dsimp only [ltO14] at hSw ⊢; go_simp <;> with_reducible rfl)
                  try simp only [Act.put, List.setIfInBounds_toArray, List.set_cons_zero, List.set_cons_succ]
                  refine takeLW 15 ltO15 (some 145) ?_ ?_ (by assumption) ?_
                  rotate_left
                  · (intro w hSw; dsimp only [ltO15] at hSw ⊢; go_simp <;> with_reducible rfl)
                  try simp only [Act.put, List.setIfInBounds_toArray, List.set_cons_zero, List.set_cons_succ]
                  refine takeLW 16 ltO16 (some 146) ?_ ?_ (by assumption) ?_
                  rotate_left
                  · (intro w hSw; dsimp only [ltO16] at hSw ⊢; go_simp <;> with_reducible rfl)
                  try simp only [Act.put, List.setIfInBounds_toArray, List.set_cons_zero, List.set_cons_succ]
                  refine takeLW 17 ltO17 (some 147) ?_ ?_ (by assumption) ?_
                  rotate_left
                  · (intro w hSw; dsimp only [ltO17] at hSw ⊢; go_simp <;> with_reducible rfl)
                  try simp only [Act.put, List.setIfInBounds_toArray, List.set_cons_zero, List.set_cons_succ]
                  refine takeLW 18 ltO18 (some 148) ?_ ?_ (by assumption) ?_
                  rotate_left
                  · (intro w hSw; dsimp only [ltO18] at hSw ⊢; go_simp <;> with_reducible rfl)
                  try simp only [Act.put, List.setIfInBounds_toArray, List.set_cons_zero, List.set_cons_succ]
                  refine takeLW 19 ltO19 (some 149) ?_ ?_ (by assumption) ?_
                  rotate_left
                  · (intro w hSw; dsimp only [ltO19] at hSw ⊢; go_simp <;> with_reducible rfl)
                  try simp only [Act.put, List.setIfInBounds_toArray, List.set_cons_zero, List.set_cons_succ]
                  refine takeLW 20 ltO20 (some 150) ?_ ?_ (by assumption) ?_
                  rotate_left
                  · (intro w hSw; dsimp only [ltO20] at hSw ⊢; go_simp <;> with_reducible rfl)
                  try simp only [Act.put, List.setIfInBounds_toArray, List.set_cons_zero, List.set_cons_succ]
                  refine takeLW 21 ltO21 (some 151) ?_ ?_ (by assumption) ?_
                  rotate_left
                  · (intro w hSw; dsimp only [ltO21] at hSw ⊢; go_simp <;> with_reducible rfl)
                  try simp only [Act.put, List.setIfInBounds_toArray, List.set_cons_zero, List.set_cons_succ]
                  refine takeLW 22 ltO22 (some 152) ?_ ?_ (by assumption) ?_
                  rotate_left
                  · (intro w hSw; dsimp only [ltO22] at hSw ⊢; go_simp <;> with_reducible rfl)
                  try simp only [Act.put, List.setIfInBounds_toArray, List.set_cons_zero, List.set_cons_succ]
                  refine takeLW 23 ltO23 (some 153) ?_ ?_ (by assumption) ?_
                  rotate_left
                  · (intro w hSw; dsimp only [ltO23] at hSw ⊢; go_simp <;> with_reducible rfl)
                  try simp only [Act.put, List.setIfInBounds_toArray, List.set_cons_zero, List.set_cons_succ]
                  refine takeLW 24 ltO24 (some 154) ?_ ?_ (by assumption) ?_
                  rotate_left
                  · (intro w hSw; dsimp only [ltO24] at hSw ⊢; go_simp <;> with_reducible rfl)
                  try simp only [Act.put, List.setIfInBounds_toArray, List.set_cons_zero, List.set_cons_succ]
                  refine takeLW 25 ltO25 (some 155) ?_ ?_ (by assumption) ?_
                  rotate_left
                  · (intro w hSw; dsimp only [ltO25] at hSw ⊢; go_simp <;> with_reducible rfl)
                  try simp only [Act.put, List.setIfInBounds_toArray, List.set_cons_zero, List.set_cons_succ]
                  refine takeLW 26 ltO26 (some 156) ?_ ?_ (by assumption) ?_
                  rotate_left
                  · (intro w hSw; dsimp only [ltO26] at hSw ⊢; go_simp <;> with_reducible rfl)
                  try simp only [Act.put, List.setIfInBounds_toArray, List.set_cons_zero, List.set_cons_succ]
                  refine wpAnyH_ready (rs := [27]) (by kernel_rfl) (by simp) ?_
                  refine AllReadyH.cons (o := { dst := some 157, op := Go.Op.call { callee := Go.Callee.value (Go.Operand.func 35), args := #[Go.Operand.tmp 156], argTypes := #[33] }, type := 3, pos := "ref.go:79", after := #[{ on := 26, ground := Go.Ground.data }, { on := 23, ground := Go.Ground.chain }, { on := 23, ground := Go.Ground.guard }], guard := some (23, false) }) rfl (fun K hK => ?_) AllReadyH.nil
                  go_simp
                  refine (HVI.out _ ?_).mono ?_
                  · exact (LtsS.last (P := P) (f := f) (vL := .slice (some ⟨b, off, none⟩) q cap) (L0 := L0) (vg := 0) (vr := 0) (vi := l.id) (vs := (-1)) (vo := l.over) (by assumption))
                  rintro e w2 ⟨rfl, hbw⟩
                  go_wp2_with fail
                  refine hK.out _ _ ?_ (fun hHeld => ?_)
                  · exact LtsS.of hP hL0 HS1.out ((LtsS.last (P := P) (f := f) (vL := .slice (some ⟨b, off, none⟩) q cap) (L0 := L0) (vg := 0) (vr := 0) (vi := l.id) (vs := (-1)) (vo := l.over) (by assumption)).trans (hbw.mono (LtsS.last (P := P) (f := f) (vL := .slice (some ⟨b, off, none⟩) q cap) (L0 := L0) (vg := 0) (vr := 0) (vi := l.id) (vs := (-1)) (vo := l.over) (by assumption)).size))
                  clear hK K hbw
                  try simp only [Act.put, List.setIfInBounds_toArray, List.set_cons_zero, List.set_cons_succ]
                  refine takeLW 28 ltO27 (some 158) ?_ ?_ (by assumption) ?_
                  rotate_left
                  · (intro w hSw; dsimp only [ltO27] at hSw ⊢; go_simp <;> with_reducible rfl)
                  try simp only [Act.put, List.setIfInBounds_toArray, List.set_cons_zero, List.set_cons_succ]
                  refine takeLW 29 ltO28 (some 159) ?_ ?_ (by assumption) ?_
                  rotate_left
                  · (intro w hSw; dsimp only [ltO28] at hSw ⊢; go_simp <;> with_reducible rfl)
                  try simp only [Act.put, List.setIfInBounds_toArray, List.set_cons_zero, List.set_cons_succ]
                  refine takeLW 30 ltO29 (some 160) ?_ ?_ (by assumption) ?_
                  rotate_left
                  · (intro w hSw; dsimp only [ltO29] at hSw ⊢; go_simp <;> with_reducible rfl)
                  try simp only [Act.put, List.setIfInBounds_toArray, List.set_cons_zero, List.set_cons_succ]
                  refine takeLW 31 ltO30 (some 161) ?_ ?_ (by assumption) ?_
                  rotate_left
                  · (intro w hSw; dsimp only [ltO30] at hSw ⊢; go_simp <;> with_reducible rfl)
                  try simp only [Act.put, List.setIfInBounds_toArray, List.set_cons_zero, List.set_cons_succ]
                  refine takeLW 32 ltO31 (some 162) ?_ ?_ (by assumption) ?_
                  rotate_left
                  · (intro w hSw; dsimp only [ltO31] at hSw ⊢; go_simp <;> with_reducible rfl)
                  try simp only [Act.put, List.setIfInBounds_toArray, List.set_cons_zero, List.set_cons_succ]
                  refine takeLW 33 ltO32 (some 163) ?_ ?_ (by assumption) ?_
                  rotate_left
                  · (intro w hSw; dsimp only [ltO32] at hSw ⊢; go_simp <;> with_reducible rfl)
                  try simp only [Act.put, List.setIfInBounds_toArray, List.set_cons_zero, List.set_cons_succ]
                  refine takeLW 34 ltO33 (some 164) ?_ ?_ (by assumption) ?_
                  rotate_left
                  · (intro w hSw; dsimp only [ltO33] at hSw ⊢; go_simp <;> with_reducible rfl)
                  try simp only [Act.put, List.setIfInBounds_toArray, List.set_cons_zero, List.set_cons_succ]
                  refine takeLW 35 ltO34 (some 165) ?_ ?_ (by assumption) ?_
                  rotate_left
                  · (intro w hSw; dsimp only [ltO34] at hSw ⊢; go_simp <;> with_reducible rfl)
                  try simp only [Act.put, List.setIfInBounds_toArray, List.set_cons_zero, List.set_cons_succ]
                  refine takeLW 36 ltO35 (some 166) ?_ ?_ (by assumption) ?_
                  rotate_left
                  · (intro w hSw; dsimp only [ltO35] at hSw ⊢; go_simp <;> with_reducible rfl)
                  try simp only [Act.put, List.setIfInBounds_toArray, List.set_cons_zero, List.set_cons_succ]
                  refine takeLW 37 ltO36 (some 167) ?_ ?_ (by assumption) ?_
                  rotate_left
                  · (intro w hSw; dsimp only [ltO36] at hSw ⊢; go_simp <;> with_reducible rfl)
                  try simp only [Act.put, List.setIfInBounds_toArray, List.set_cons_zero, List.set_cons_succ]
                  refine takeLW 38 ltO37 (some 168) ?_ ?_ (by assumption) ?_
                  rotate_left
                  · (intro w hSw; dsimp only [ltO37] at hSw ⊢; go_simp <;> with_reducible rfl)
                  try simp only [Act.put, List.setIfInBounds_toArray, List.set_cons_zero, List.set_cons_succ]
                  refine wpAnyH_ready (rs := [39]) (by kernel_rfl) (by simp) ?_
                  refine AllReadyH.cons (o := { dst := some 169, op := Go.Op.call { callee := Go.Callee.value (Go.Operand.func 70), args := #[Go.Operand.tmp 166, Go.Operand.tmp 168], argTypes := #[33, 3] }, type := 3, pos := "ref.go:79", after := #[{ on := 36, ground := Go.Ground.data }, { on := 38, ground := Go.Ground.data }, { on := 35, ground := Go.Ground.chain }, { on := 35, ground := Go.Ground.guard }], guard := some (35, false) }) rfl (fun K hK => ?_) AllReadyH.nil
                  go_simp
                  refine (HTI.out _ ?_).mono ?_
                  · exact (LtsS.last (P := P) (f := f) (vL := .slice (some ⟨b, off, none⟩) q cap) (L0 := L0) (vg := 0) (vr := 0) (vi := l.id) (vs := (-1)) (vo := l.over) (by assumption))
                  rintro e w3 ⟨rfl, hbw⟩
                  go_wp2_with fail
                  refine hK.out _ _ ?_ (fun hHeld => ?_)
                  · exact LtsS.of hP hL0 HS1.out ((LtsS.last (P := P) (f := f) (vL := .slice (some ⟨b, off, none⟩) q cap) (L0 := L0) (vg := 0) (vr := 0) (vi := l.id) (vs := (-1)) (vo := l.over) (by assumption)).trans (hbw.mono (LtsS.last (P := P) (f := f) (vL := .slice (some ⟨b, off, none⟩) q cap) (L0 := L0) (vg := 0) (vr := 0) (vi := l.id) (vs := (-1)) (vo := l.over) (by assumption)).size))
                  clear hK K hbw
                  try simp only [Act.put, List.setIfInBounds_toArray, List.set_cons_zero, List.set_cons_succ]
                  refine takeLW 40 ltO39 (some 170) ?_ ?_ (by assumption) ?_
                  rotate_left
                  · (intro w hSw; dsimp only [ltO39] at hSw ⊢; go_simp <;> with_reducible rfl)
                  try simp only [Act.put, List.setIfInBounds_toArray, List.set_cons_zero, List.set_cons_succ]
                  refine takeLW 41 ltO40 (some 171) ?_ ?_ (by assumption) ?_
                  rotate_left
                  · (intro w hSw; dsimp only [ltO40] at hSw ⊢; go_simp <;> with_reducible rfl)
                  try simp only [Act.put, List.setIfInBounds_toArray, List.set_cons_zero, List.set_cons_succ]
                  refine wpAnyH_done (by kernel_rfl) ?_ _
                  have hS : LtsS P f (.slice (some ⟨b, off, none⟩) q cap) L0 (0) (0) (l.id) ((-1)) (l.over) wr w3 := by assumption
                  have HSS := Lib.hid hS.last
                  clear hS
                  go_wp2_with fail
                  go_ret
                  exact N.out _ HSS.out
              · as_aux_lemma =>
                rw [g1] at y1
                rw [g2] at y2
                rcases g3 with g3 | ⟨g3', g3⟩
                · rw [g3] at y4
                  have hg3 : l.sign = 1 ∨ l.sign = -1 := .inl g3
                  have t5 : decide (l.id < 1) = false := by rw [decide_eq_false_iff_not]; exact g4
                  have t6 : decide (vi / 2 < l.id) = false := by rw [decide_eq_false_iff_not]; exact g5
                  have t7 : (cp != 1) = false := by rw [bne_eq_false_iff_eq]; exact g6
                  have t8 : (ti != 2) = false := by rw [bne_eq_false_iff_eq]; exact g7
                  have Y := Lib.hid (YES.out (hno.out.2 ⟨g1, g2, hg3, by omega, by omega, g6, g7⟩))
                  have HS1 : Hid (LtsS P f (.slice (some ⟨b, off, none⟩) q cap) L0 (0) (0) (l.id) (1) (l.over) wr wr) := ⟨x0, x1, y1, y2, y3, y4, y5, Below.refl _ _⟩
                  clear NO YES hno
                  clear g1 g2 g3 g4 g5
                  go_wp2_with fail
                  refine wp_region_held_drew (S := (fun w' => w'.cell? ⟨P, 0, none⟩ = some (.int .i64 f) ∧ w'.cell? ⟨P, 1, none⟩ = some (.slice (some ⟨b, off, none⟩) q cap) ∧ w'.cell? ⟨L0, 1, none⟩ = some (.int .i64 0) ∧ w'.cell? ⟨L0, 2, none⟩ = some (.int .i64 0) ∧ w'.cell? ⟨L0, 3, none⟩ = some (.int .i64 l.id) ∧ w'.cell? ⟨L0, 4, none⟩ = some (.int .i64 1) ∧ w'.cell? ⟨L0, 5, none⟩ = some (.bool l.over) ∧ Below wr.heap.size wr w')) (by kernel_rfl) ?_ (fun hHeld => ?_)
                  · exact LtsS.of hP hL0 HS1.out (Below.refl _ _).drew
                  refine takeLW 0 ltO0 (some 130) ?_ ?_ (by assumption) ?_
                  rotate_left
                  · (intro w hSw; dsimp only [ltO0] at hSw ⊢; go_simp <;> with_reducible rfl)
                  try simp only [Act.put, List.setIfInBounds_toArray, List.set_cons_zero, List.set_cons_succ]
                  refine takeLW 1 ltO1 (some 131) ?_ ?_ (by assumption) ?_
                  rotate_left
                  · (intro w hSw; dsimp only [ltO1] at hSw ⊢; go_simp <;> with_reducible rfl)
                  try simp only [Act.put, List.setIfInBounds_toArray, List.set_cons_zero, List.set_cons_succ]
                  refine takeLW 2 ltO2 (some 132) ?_ ?_ (by assumption) ?_
                  rotate_left
                  · (intro w hSw; dsimp only [ltO2] at hSw ⊢; go_simp <;> with_reducible rfl)
                  try simp only [Act.put, List.setIfInBounds_toArray, List.set_cons_zero, List.set_cons_succ]
                  refine takeLW 3 ltO3 (some 133) ?_ ?_ (by assumption) ?_
                  rotate_left
                  · (intro w hSw; dsimp only [ltO3] at hSw ⊢; go_simp <;> with_reducible rfl)
                  try simp only [Act.put, List.setIfInBounds_toArray, List.set_cons_zero, List.set_cons_succ]
                  refine takeLW 4 ltO4 (some 134) ?_ ?_ (by assumption) ?_
                  rotate_left
                  · (intro w hSw; dsimp only [ltO4] at hSw ⊢; go_simp <;> with_reducible rfl)
                  try simp only [Act.put, List.setIfInBounds_toArray, List.set_cons_zero, List.set_cons_succ]
                  refine takeLW 5 ltO5 (some 135) ?_ ?_ (by assumption) ?_
                  rotate_left
                  · (intro w hSw; dsimp only [ltO5] at hSw ⊢; go_simp <;> with_reducible rfl)
                  try simp only [Act.put, List.setIfInBounds_toArray, List.set_cons_zero, List.set_cons_succ]
                  refine takeLW 6 ltO6 (some 136) ?_ ?_ (by assumption) ?_
                  rotate_left
                  · (intro w hSw; dsimp only [ltO6] at hSw ⊢; go_simp <;> with_reducible rfl)
                  try simp only [Act.put, List.setIfInBounds_toArray, List.set_cons_zero, List.set_cons_succ]
                  refine takeLW 7 ltO7 (some 137) ?_ ?_ (by assumption) ?_
                  rotate_left
                  · (intro w hSw; dsimp only [ltO7] at hSw ⊢; go_simp <;> with_reducible rfl)
                  try simp only [Act.put, List.setIfInBounds_toArray, List.set_cons_zero, List.set_cons_succ]
                  refine takeLW 8 ltO8 (some 138) ?_ ?_ (by assumption) ?_
                  rotate_left
                  · (intro w hSw; dsimp only [ltO8] at hSw ⊢; go_simp <;> with_reducible rfl)
                  try simp only [Act.put, List.setIfInBounds_toArray, List.set_cons_zero, List.set_cons_succ]
                  refine takeLW 9 ltO9 (some 139) ?_ ?_ (by assumption) ?_
                  rotate_left
                  · (intro w hSw; dsimp only [ltO9] at hSw ⊢; go_simp <;> with_reducible rfl)
                  try simp only [Act.put, List.setIfInBounds_toArray, List.set_cons_zero, List.set_cons_succ]
                  refine takeLW 10 ltO10 (some 140) ?_ ?_ (by assumption) ?_
                  rotate_left
                  · (intro w hSw; dsimp only [ltO10] at hSw ⊢; go_simp <;> with_reducible rfl)
                  try simp only [Act.put, List.setIfInBounds_toArray, List.set_cons_zero, List.set_cons_succ]
                  refine takeLW 11 ltO11 (some 141) ?_ ?_ (by assumption) ?_
                  rotate_left
                  · (intro w hSw; dsimp only [ltO11] at hSw ⊢; go_simp <;> with_reducible rfl)
                  try simp only [Act.put, List.setIfInBounds_toArray, List.set_cons_zero, List.set_cons_succ]
                  refine takeLW 12 ltO12 (some 142) ?_ ?_ (by assumption) ?_
                  rotate_left
                  · (intro w hSw; dsimp only [ltO12] at hSw ⊢; go_simp <;> with_reducible rfl)
                  try simp only [Act.put, List.setIfInBounds_toArray, List.set_cons_zero, List.set_cons_succ]
                  refine takeLU 13 ltO13 (some 143) (by assumption) ?_
                  try simp only [Act.put, List.setIfInBounds_toArray, List.set_cons_zero, List.set_cons_succ]
                  refine takeLU 14 ltO14 (some 144) (by assumption) ?_
                  try simp only [Act.put, List.setIfInBounds_toArray, List.set_cons_zero, List.set_cons_succ]
                  refine takeLU 15 ltO15 (some 145) (by assumption) ?_
                  try simp only [Act.put, List.setIfInBounds_toArray, List.set_cons_zero, List.set_cons_succ]
                  refine takeLW 16 ltO16 (some 146) ?_ ?_ (by assumption) ?_
                  rotate_left
                  · (intro w hSw; dsimp only [ltO16] at hSw ⊢; go_simp <;> with_reducible rfl)
                  try simp only [Act.put, List.setIfInBounds_toArray, List.set_cons_zero, List.set_cons_succ]
                  refine takeLW 17 ltO17 (some 147) ?_ ?_ (by assumption) ?_
                  rotate_left
                  · (intro w hSw; dsimp only [ltO17] at hSw ⊢; go_simp <;> with_reducible rfl)
                  try simp only [Act.put, List.setIfInBounds_toArray, List.set_cons_zero, List.set_cons_succ]
                  refine takeLW 18 ltO18 (some 148) ?_ ?_ (by assumption) ?_
                  rotate_left
                  · (intro w hSw; dsimp only [ltO18] at hSw ⊢; go_simp <;> with_reducible rfl)
                  try simp only [Act.put, List.setIfInBounds_toArray, List.set_cons_zero, List.set_cons_succ]
                  refine takeLW 19 ltO19 (some 149) ?_ ?_ (by assumption) ?_
                  rotate_left
                  · (intro w hSw; dsimp only [ltO19] at hSw ⊢; go_simp <;> with_reducible rfl)
                  try simp only [Act.put, List.setIfInBounds_toArray, List.set_cons_zero, List.set_cons_succ]
                  refine takeLW 20 ltO20 (some 150) ?_ ?_ (by assumption) ?_
                  rotate_left
                  · (intro w hSw; dsimp only [ltO20] at hSw ⊢; go_simp <;> with_reducible rfl)
                  try simp only [Act.put, List.setIfInBounds_toArray, List.set_cons_zero, List.set_cons_succ]
                  refine takeLW 21 ltO21 (some 151) ?_ ?_ (by assumption) ?_
                  rotate_left
                  · (intro w hSw; dsimp only [ltO21] at hSw ⊢; go_simp <;> with_reducible rfl)
                  try simp only [Act.put, List.setIfInBounds_toArray, List.set_cons_zero, List.set_cons_succ]
                  refine takeLW 22 ltO22 (some 152) ?_ ?_ (by assumption) ?_
                  rotate_left
                  · (intro w hSw; dsimp only [ltO22] at hSw ⊢; go_simp <;> with_reducible rfl)
                  try simp only [Act.put, List.setIfInBounds_toArray, List.set_cons_zero, List.set_cons_succ]
                  refine takeLW 23 ltO23 (some 153) ?_ ?_ (by assumption) ?_
                  rotate_left
                  · (intro w hSw; dsimp only [ltO23] at hSw ⊢; go_simp <;> with_reducible rfl)
                  try simp only [Act.put, List.setIfInBounds_toArray, List.set_cons_zero, List.set_cons_succ]
                  refine takeLW 24 ltO24 (some 154) ?_ ?_ (by assumption) ?_
                  rotate_left
                  · (intro w hSw; dsimp only [ltO24] at hSw ⊢; go_simp <;> with_reducible rfl)
                  try simp only [Act.put, List.setIfInBounds_toArray, List.set_cons_zero, List.set_cons_succ]
                  refine takeLW 25 ltO25 (some 155) ?_ ?_ (by assumption) ?_
                  rotate_left
                  · (intro w hSw; dsimp only [ltO25] at hSw ⊢; go_simp <;> with_reducible rfl)
                  try simp only [Act.put, List.setIfInBounds_toArray, List.set_cons_zero, List.set_cons_succ]
                  refine takeLW 26 ltO26 (some 156) ?_ ?_ (by assumption) ?_
                  rotate_left
                  · (intro w hSw; dsimp only [ltO26] at hSw ⊢; go_simp <;> with_reducible rfl)
                  try simp only [Act.put, List.setIfInBounds_toArray, List.set_cons_zero, List.set_cons_succ]
                  refine wpAnyH_ready (rs := [27]) (by kernel_rfl) (by simp) ?_
                  refine AllReadyH.cons (o := { dst := some 157, op := Go.Op.call { callee := Go.Callee.value (Go.Operand.func 35), args := #[Go.Operand.tmp 156], argTypes := #[33] }, type := 3, pos := "ref.go:79", after := #[{ on := 26, ground := Go.Ground.data }, { on := 23, ground := Go.Ground.chain }, { on := 23, ground := Go.Ground.guard }], guard := some (23, false) }) rfl (fun K hK => ?_) AllReadyH.nil
                  go_simp
                  refine (HVI.out _ ?_).mono ?_
                  · exact (LtsS.last (P := P) (f := f) (vL := .slice (some ⟨b, off, none⟩) q cap) (L0 := L0) (vg := 0) (vr := 0) (vi := l.id) (vs := 1) (vo := l.over) (by assumption))
                  rintro e w2 ⟨rfl, hbw⟩
                  go_wp2_with fail
                  refine hK.out _ _ ?_ (fun hHeld => ?_)
                  · exact LtsS.of hP hL0 HS1.out ((LtsS.last (P := P) (f := f) (vL := .slice (some ⟨b, off, none⟩) q cap) (L0 := L0) (vg := 0) (vr := 0) (vi := l.id) (vs := 1) (vo := l.over) (by assumption)).trans (hbw.mono (LtsS.last (P := P) (f := f) (vL := .slice (some ⟨b, off, none⟩) q cap) (L0 := L0) (vg := 0) (vr := 0) (vi := l.id) (vs := 1) (vo := l.over) (by assumption)).size))
                  clear hK K hbw
                  try simp only [Act.put, List.setIfInBounds_toArray, List.set_cons_zero, List.set_cons_succ]
                  refine takeLW 28 ltO27 (some 158) ?_ ?_ (by assumption) ?_
                  rotate_left
                  · (intro w hSw; dsimp only [ltO27] at hSw ⊢; go_simp <;> with_reducible rfl)
                  try simp only [Act.put, List.setIfInBounds_toArray, List.set_cons_zero, List.set_cons_succ]
                  refine takeLW 29 ltO28 (some 159) ?_ ?_ (by assumption) ?_
                  rotate_left
                  · (intro w hSw; dsimp only [ltO28] at hSw ⊢; go_simp <;> with_reducible rfl)
                  try simp only [Act.put, List.setIfInBounds_toArray, List.set_cons_zero, List.set_cons_succ]
                  refine takeLW 30 ltO29 (some 160) ?_ ?_ (by assumption) ?_
                  rotate_left
                  · (intro w hSw; dsimp only [ltO29] at hSw ⊢; go_simp <;> with_reducible rfl)
                  try simp only [Act.put, List.setIfInBounds_toArray, List.set_cons_zero, List.set_cons_succ]
                  refine takeLW 31 ltO30 (some 161) ?_ ?_ (by assumption) ?_
                  rotate_left
                  · (intro w hSw; dsimp only [ltO30] at hSw ⊢; go_simp <;> with_reducible rfl)
                  try simp only [Act.put, List.setIfInBounds_toArray, List.set_cons_zero, List.set_cons_succ]
                  refine takeLW 32 ltO31 (some 162) ?_ ?_ (by assumption) ?_
                  rotate_left
                  · (intro w hSw; dsimp only [ltO31] at hSw ⊢; go_simp <;> with_reducible rfl)
                  try simp only [Act.put, List.setIfInBounds_toArray, List.set_cons_zero, List.set_cons_succ]
                  refine takeLW 33 ltO32 (some 163) ?_ ?_ (by assumption) ?_
                  rotate_left
                  · (intro w hSw; dsimp only [ltO32] at hSw ⊢; go_simp <;> with_reducible rfl)
                  try simp only [Act.put, List.setIfInBounds_toArray, List.set_cons_zero, List.set_cons_succ]
                  refine takeLW 34 ltO33 (some 164) ?_ ?_ (by assumption) ?_
                  rotate_left
                  · (intro w hSw; dsimp only [ltO33] at hSw ⊢; go_simp <;> with_reducible rfl)
                  try simp only [Act.put, List.setIfInBounds_toArray, List.set_cons_zero, List.set_cons_succ]
                  refine takeLW 35 ltO34 (some 165) ?_ ?_ (by assumption) ?_
                  rotate_left
                  · (intro w hSw; dsimp only [ltO34] at hSw ⊢; go_simp <;> with_reducible rfl)
                  try simp only [Act.put, List.setIfInBounds_toArray, List.set_cons_zero, List.set_cons_succ]
                  refine takeLW 36 ltO35 (some 166) ?_ ?_ (by assumption) ?_
                  rotate_left
                  · (intro w hSw; dsimp only [ltO35] at hSw ⊢; go_simp <;> with_reducible rfl)
                  try simp only [Act.put, List.setIfInBounds_toArray, List.set_cons_zero, List.set_cons_succ]
                  refine takeLW 37 ltO36 (some 167) ?_ ?_ (by assumption) ?_
                  rotate_left
                  · (intro w hSw; dsimp only [ltO36] at hSw ⊢; go_simp <;> with_reducible rfl)
                  try simp only [Act.put, List.setIfInBounds_toArray, List.set_cons_zero, List.set_cons_succ]
                  refine takeLW 38 ltO37 (some 168) ?_ ?_ (by assumption) ?_
                  rotate_left
                  · (intro w hSw; dsimp only [ltO37] at hSw ⊢; go_simp <;> with_reducible rfl)
                  try simp only [Act.put, List.setIfInBounds_toArray, List.set_cons_zero, List.set_cons_succ]
                  refine wpAnyH_ready (rs := [39]) (by kernel_rfl) (by simp) ?_
                  refine AllReadyH.cons (o := { dst := some 169, op := Go.Op.call { callee := Go.Callee.value (Go.Operand.func 70), args := #[Go.Operand.tmp 166, Go.Operand.tmp 168], argTypes := #[33, 3] }, type := 3, pos := "ref.go:79", after := #[{ on := 36, ground := Go.Ground.data }, { on := 38, ground := Go.Ground.data }, { on := 35, ground := Go.Ground.chain }, { on := 35, ground := Go.Ground.guard }], guard := some (35, false) }) rfl (fun K hK => ?_) AllReadyH.nil
                  go_simp
                  refine (HTI.out _ ?_).mono ?_
                  · exact (LtsS.last (P := P) (f := f) (vL := .slice (some ⟨b, off, none⟩) q cap) (L0 := L0) (vg := 0) (vr := 0) (vi := l.id) (vs := 1) (vo := l.over) (by assumption))
                  rintro e w3 ⟨rfl, hbw⟩
                  go_wp2_with fail
                  refine hK.out _ _ ?_ (fun hHeld => ?_)
                  · exact LtsS.of hP hL0 HS1.out ((LtsS.last (P := P) (f := f) (vL := .slice (some ⟨b, off, none⟩) q cap) (L0 := L0) (vg := 0) (vr := 0) (vi := l.id) (vs := 1) (vo := l.over) (by assumption)).trans (hbw.mono (LtsS.last (P := P) (f := f) (vL := .slice (some ⟨b, off, none⟩) q cap) (L0 := L0) (vg := 0) (vr := 0) (vi := l.id) (vs := 1) (vo := l.over) (by assumption)).size))
                  clear hK K hbw
                  try simp only [Act.put, List.setIfInBounds_toArray, List.set_cons_zero, List.set_cons_succ]
                  refine takeLW 40 ltO39 (some 170) ?_ ?_ (by assumption) ?_
                  rotate_left
                  · (intro w hSw; dsimp only [ltO39] at hSw ⊢; go_simp <;> with_reducible rfl)
                  try simp only [Act.put, List.setIfInBounds_toArray, List.set_cons_zero, List.set_cons_succ]
                  refine takeLW 41 ltO40 (some 171) ?_ ?_ (by assumption) ?_
                  rotate_left
                  · (intro w hSw; dsimp only [ltO40] at hSw ⊢; go_simp <;> with_reducible rfl)
                  try simp only [Act.put, List.setIfInBounds_toArray, List.set_cons_zero, List.set_cons_succ]
                  refine wpAnyH_done (by kernel_rfl) ?_ _
                  have hS : LtsS P f (.slice (some ⟨b, off, none⟩) q cap) L0 (0) (0) (l.id) (1) (l.over) wr w3 := by assumption
                  have HSS := Lib.hid hS.last
                  clear hS
                  go_wp2_with fail
                  go_roundw
                  case rel => exact Y.out _ HSS.out
                  case measure => simp [intOf]; omega
                · rw [g3] at y4
                  have hg3 : l.sign = 1 ∨ l.sign = -1 := .inr g3
                  have t5 : decide (l.id < 1) = false := by rw [decide_eq_false_iff_not]; exact g4
                  have t6 : decide (vi / 2 < l.id) = false := by rw [decide_eq_false_iff_not]; exact g5
                  have t7 : (cp != 1) = false := by rw [bne_eq_false_iff_eq]; exact g6
                  have t8 : (ti != 2) = false := by rw [bne_eq_false_iff_eq]; exact g7
                  have Y := Lib.hid (YES.out (hno.out.2 ⟨g1, g2, hg3, by omega, by omega, g6, g7⟩))
                  have HS1 : Hid (LtsS P f (.slice (some ⟨b, off, none⟩) q cap) L0 (0) (0) (l.id) ((-1)) (l.over) wr wr) := ⟨x0, x1, y1, y2, y3, y4, y5, Below.refl _ _⟩
                  clear NO YES hno
                  clear g1 g2 g3 g4 g5
                  go_wp2_with fail
                  refine wp_region_held_drew (S := (fun w' => w'.cell? ⟨P, 0, none⟩ = some (.int .i64 f) ∧ w'.cell? ⟨P, 1, none⟩ = some (.slice (some ⟨b, off, none⟩) q cap) ∧ w'.cell? ⟨L0, 1, none⟩ = some (.int .i64 0) ∧ w'.cell? ⟨L0, 2, none⟩ = some (.int .i64 0) ∧ w'.cell? ⟨L0, 3, none⟩ = some (.int .i64 l.id) ∧ w'.cell? ⟨L0, 4, none⟩ = some (.int .i64 (-1)) ∧ w'.cell? ⟨L0, 5, none⟩ = some (.bool l.over) ∧ Below wr.heap.size wr w')) (by kernel_rfl) ?_ (fun hHeld => ?_)
                  · exact LtsS.of hP hL0 HS1.out (Below.refl _ _).drew
                  refine takeLW 0 ltO0 (some 130) ?_ ?_ (by assumption) ?_
                  rotate_left
                  · (intro w hSw; dsimp only [ltO0] at hSw ⊢; go_simp <;> with_reducible rfl)
                  try simp only [Act.put, List.setIfInBounds_toArray, List.set_cons_zero, List.set_cons_succ]
                  refine takeLW 1 ltO1 (some 131) ?_ ?_ (by assumption) ?_
                  rotate_left
                  · (intro w hSw; dsimp only [ltO1] at hSw ⊢; go_simp <;> with_reducible rfl)
                  try simp only [Act.put, List.setIfInBounds_toArray, List.set_cons_zero, List.set_cons_succ]
                  refine takeLW 2 ltO2 (some 132) ?_ ?_ (by assumption) ?_
                  rotate_left
                  · (intro w hSw; dsimp only [ltO2] at hSw ⊢; go_simp <;> with_reducible rfl)
                  try simp only [Act.put, List.setIfInBounds_toArray, List.set_cons_zero, List.set_cons_succ]
                  refine takeLW 3 ltO3 (some 133) ?_ ?_ (by assumption) ?_
                  rotate_left
                  · (intro w hSw; dsimp only [ltO3] at hSw ⊢; go_simp <;> with_reducible rfl)
                  try simp only [Act.put, List.setIfInBounds_toArray, List.set_cons_zero, List.set_cons_succ]
                  refine takeLW 4 ltO4 (some 134) ?_ ?_ (by assumption) ?_
                  rotate_left
                  · (intro w hSw; dsimp only [ltO4] at hSw ⊢; go_simp <;> with_reducible rfl)
                  try simp only [Act.put, List.setIfInBounds_toArray, List.set_cons_zero, List.set_cons_succ]
                  refine takeLW 5 ltO5 (some 135) ?_ ?_ (by assumption) ?_
                  rotate_left
                  · (intro w hSw; dsimp only [ltO5] at hSw ⊢; go_simp <;> with_reducible rfl)
                  try simp only [Act.put, List.setIfInBounds_toArray, List.set_cons_zero, List.set_cons_succ]
                  refine takeLW 6 ltO6 (some 136) ?_ ?_ (by assumption) ?_
                  rotate_left
                  · (intro w hSw; dsimp only [ltO6] at hSw ⊢; go_simp <;> with_reducible rfl)
                  try simp only [Act.put, List.setIfInBounds_toArray, List.set_cons_zero, List.set_cons_succ]
                  refine takeLW 7 ltO7 (some 137) ?_ ?_ (by assumption) ?_
                  rotate_left
                  · (intro w hSw; dsimp only [ltO7] at hSw ⊢; go_simp <;> with_reducible rfl)
                  try simp only [Act.put, List.setIfInBounds_toArray, List.set_cons_zero, List.set_cons_succ]
                  refine takeLW 8 ltO8 (some 138) ?_ ?_ (by assumption) ?_
                  rotate_left
                  · (intro w hSw; dsimp only [ltO8] at hSw ⊢; go_simp <;> with_reducible rfl)
                  try simp only [Act.put, List.setIfInBounds_toArray, List.set_cons_zero, List.set_cons_succ]
                  refine takeLW 9 ltO9 (some 139) ?_ ?_ (by assumption) ?_
                  rotate_left
                  · (intro w hSw; dsimp only [ltO9] at hSw ⊢; go_simp <;> with_reducible rfl)
                  try simp only [Act.put, List.setIfInBounds_toArray, List.set_cons_zero, List.set_cons_succ]
                  refine takeLW 10 ltO10 (some 140) ?_ ?_ (by assumption) ?_
                  rotate_left
                  · (intro w hSw; dsimp only [ltO10] at hSw ⊢; go_simp <;> with_reducible rfl)
                  try simp only [Act.put, List.setIfInBounds_toArray, List.set_cons_zero, List.set_cons_succ]
                  refine takeLW 11 ltO11 (some 141) ?_ ?_ (by assumption) ?_
                  rotate_left
                  · (intro w hSw; dsimp only [ltO11] at hSw ⊢; go_simp <;> with_reducible rfl)
                  try simp only [Act.put, List.setIfInBounds_toArray, List.set_cons_zero, List.set_cons_succ]
                  refine takeLW 12 ltO12 (some 142) ?_ ?_ (by assumption) ?_
                  rotate_left
                  · (intro w hSw; dsimp only [ltO12] at hSw ⊢; go_simp <;> with_reducible rfl)
                  try simp only [Act.put, List.setIfInBounds_toArray, List.set_cons_zero, List.set_cons_succ]
                  refine takeLW 13 ltO13 (some 143) ?_ ?_ (by assumption) ?_
                  rotate_left
                  · (intro w hSw; dsimp only [ltO13] at hSw ⊢; go_simp <;> with_reducible rfl)
                  try simp only [Act.put, List.setIfInBounds_toArray, List.set_cons_zero, List.set_cons_succ]
                  refine takeLW 14 ltO14 (some 144) ?_ ?_ (by assumption) ?_
                  rotate_left
                  · (intro w hSw; dsimp only [ltO14] at hSw ⊢; go_simp <;> with_reducible rfl)
                  try simp only [Act.put, List.setIfInBounds_toArray, List.set_cons_zero, List.set_cons_succ]
                  refine takeLW 15 ltO15 (some 145) ?_ ?_ (by assumption) ?_
                  rotate_left
                  · (intro w hSw; dsimp only [ltO15] at hSw ⊢; go_simp <;> with_reducible rfl)
                  try simp only [Act.put, List.setIfInBounds_toArray, List.set_cons_zero, List.set_cons_succ]
                  refine takeLW 16 ltO16 (some 146) ?_ ?_ (by assumption) ?_
                  rotate_left
                  · (intro w hSw; dsimp only [ltO16] at hSw ⊢; go_simp <;> with_reducible rfl)
                  try simp only [Act.put, List.setIfInBounds_toArray, List.set_cons_zero, List.set_cons_succ]
                  refine takeLW 17 ltO17 (some 147) ?_ ?_ (by assumption) ?_
                  rotate_left
                  · (intro w hSw; dsimp only [ltO17] at hSw ⊢; go_simp <;> with_reducible rfl)
                  try simp only [Act.put, List.setIfInBounds_toArray, List.set_cons_zero, List.set_cons_succ]
                  refine takeLW 18 ltO18 (some 148) ?_ ?_ (by assumption) ?_
                  rotate_left
                  · (intro w hSw; dsimp only [ltO18] at hSw ⊢; go_simp <;> with_reducible rfl)
                  try simp only [Act.put, List.setIfInBounds_toArray, List.set_cons_zero, List.set_cons_succ]
                  refine takeLW 19 ltO19 (some 149) ?_ ?_ (by assumption) ?_
                  rotate_left
                  · (intro w hSw; dsimp only [ltO19] at hSw ⊢; go_simp <;> with_reducible rfl)
                  try simp only [Act.put, List.setIfInBounds_toArray, List.set_cons_zero, List.set_cons_succ]
                  refine takeLW 20 ltO20 (some 150) ?_ ?_ (by assumption) ?_
                  rotate_left
                  · (intro w hSw; dsimp only [ltO20] at hSw ⊢; go_simp <;> with_reducible rfl)
                  try simp only [Act.put, List.setIfInBounds_toArray, List.set_cons_zero, List.set_cons_succ]
                  refine takeLW 21 ltO21 (some 151) ?_ ?_ (by assumption) ?_
                  rotate_left
                  · (intro w hSw; dsimp only [ltO21] at hSw ⊢; go_simp <;> with_reducible rfl)
                  try simp only [Act.put, List.setIfInBounds_toArray, List.set_cons_zero, List.set_cons_succ]
                  refine takeLW 22 ltO22 (some 152) ?_ ?_ (by assumption) ?_
                  rotate_left
                  · (intro w hSw; dsimp only [ltO22] at hSw ⊢; go_simp <;> with_reducible rfl)
                  try simp only [Act.put, List.setIfInBounds_toArray, List.set_cons_zero, List.set_cons_succ]
                  refine takeLW 23 ltO23 (some 153) ?_ ?_ (by assumption) ?_
                  rotate_left
                  · (intro w hSw; dsimp only [ltO23] at hSw ⊢; go_simp <;> with_reducible rfl)
                  try simp only [Act.put, List.setIfInBounds_toArray, List.set_cons_zero, List.set_cons_succ]
                  refine takeLW 24 ltO24 (some 154) ?_ ?_ (by assumption) ?_
                  rotate_left
                  · (intro w hSw; dsimp only [ltO24] at hSw ⊢; go_simp <;> with_reducible rfl)
                  try simp only [Act.put, List.setIfInBounds_toArray, List.set_cons_zero, List.set_cons_succ]
                  refine takeLW 25 ltO25 (some 155) ?_ ?_ (by assumption) ?_
                  rotate_left
                  · (intro w hSw; dsimp only [ltO25] at hSw ⊢; go_simp <;> with_reducible rfl)
                  try simp only [Act.put, List.setIfInBounds_toArray, List.set_cons_zero, List.set_cons_succ]
                  refine takeLW 26 ltO26 (some 156) ?_ ?_ (by assumption) ?_
                  rotate_left
                  · (intro w hSw; dsimp only [ltO26] at hSw ⊢; go_simp <;> with_reducible rfl)
                  try simp only [Act.put, List.setIfInBounds_toArray, List.set_cons_zero, List.set_cons_succ]
                  refine wpAnyH_ready (rs := [27]) (by kernel_rfl) (by simp) ?_
                  refine AllReadyH.cons (o := { dst := some 157, op := Go.Op.call { callee := Go.Callee.value (Go.Operand.func 35), args := #[Go.Operand.tmp 156], argTypes := #[33] }, type := 3, pos := "ref.go:79", after := #[{ on := 26, ground := Go.Ground.data }, { on := 23, ground := Go.Ground.chain }, { on := 23, ground := Go.Ground.guard }], guard := some (23, false) }) rfl (fun K hK => ?_) AllReadyH.nil
                  go_simp
                  refine (HVI.out _ ?_).mono ?_
                  · exact (LtsS.last (P := P) (f := f) (vL := .slice (some ⟨b, off, none⟩) q cap) (L0 := L0) (vg := 0) (vr := 0) (vi := l.id) (vs := (-1)) (vo := l.over) (by assumption))
                  rintro e w2 ⟨rfl, hbw⟩
                  go_wp2_with fail
                  refine hK.out _ _ ?_ (fun hHeld => ?_)
                  · exact LtsS.of hP hL0 HS1.out ((LtsS.last (P := P) (f := f) (vL := .slice (some ⟨b, off, none⟩) q cap) (L0 := L0) (vg := 0) (vr := 0) (vi := l.id) (vs := (-1)) (vo := l.over) (by assumption)).trans (hbw.mono (LtsS.last (P := P) (f := f) (vL := .slice (some ⟨b, off, none⟩) q cap) (L0 := L0) (vg := 0) (vr := 0) (vi := l.id) (vs := (-1)) (vo := l.over) (by assumption)).size))
                  clear hK K hbw
                  try simp only [Act.put, List.setIfInBounds_toArray, List.set_cons_zero, List.set_cons_succ]
                  refine takeLW 28 ltO27 (some 158) ?_ ?_ (by assumption) ?_
                  rotate_left
                  · (intro w hSw; dsimp only [ltO27] at hSw ⊢; go_simp <;> with_reducible rfl)
                  try simp only [Act.put, List.setIfInBounds_toArray, List.set_cons_zero, List.set_cons_succ]
                  refine takeLW 29 ltO28 (some 159) ?_ ?_ (by assumption) ?_
                  rotate_left
                  · (intro w hSw; dsimp only [ltO28] at hSw ⊢; go_simp <;> with_reducible rfl)
                  try simp only [Act.put, List.setIfInBounds_toArray, List.set_cons_zero, List.set_cons_succ]
                  refine takeLW 30 ltO29 (some 160) ?_ ?_ (by assumption) ?_
                  rotate_left
                  · (intro w hSw; dsimp only [ltO29] at hSw ⊢; go_simp <;> with_reducible rfl)
                  try simp only [Act.put, List.setIfInBounds_toArray, List.set_cons_zero, List.set_cons_succ]
                  refine takeLW 31 ltO30 (some 161) ?_ ?_ (by assumption) ?_
                  rotate_left
                  · (intro w hSw; dsimp only [ltO30] at hSw ⊢; go_simp <;> with_reducible rfl)
                  try simp only [Act.put, List.setIfInBounds_toArray, List.set_cons_zero, List.set_cons_succ]
                  refine takeLW 32 ltO31 (some 162) ?_ ?_ (by assumption) ?_
                  rotate_left
                  · (intro w hSw; dsimp only [ltO31] at hSw ⊢; go_simp <;> with_reducible rfl)
                  try simp only [Act.put, List.setIfInBounds_toArray, List.set_cons_zero, List.set_cons_succ]
                  refine takeLW 33 ltO32 (some 163) ?_ ?_ (by assumption) ?_
                  rotate_left
                  · (intro w hSw; dsimp only [ltO32] at hSw ⊢; go_simp <;> with_reducible rfl)
                  try simp only [Act.put, List.setIfInBounds_toArray, List.set_cons_zero, List.set_cons_succ]
                  refine takeLW 34 ltO33 (some 164) ?_ ?_ (by assumption) ?_
                  rotate_left
                  · (intro w hSw; dsimp only [ltO33] at hSw ⊢; go_simp <;> with_reducible rfl)
                  try simp only [Act.put, List.setIfInBounds_toArray, List.set_cons_zero, List.set_cons_succ]
                  refine takeLW 35 ltO34 (some 165) ?_ ?_ (by assumption) ?_
                  rotate_left
                  · (intro w hSw; dsimp only [ltO34] at hSw ⊢; go_simp <;> with_reducible rfl)
                  try simp only [Act.put, List.setIfInBounds_toArray, List.set_cons_zero, List.set_cons_succ]
                  refine takeLW 36 ltO35 (some 166) ?_ ?_ (by assumption) ?_
                  rotate_left
                  · (intro w hSw; dsimp only [ltO35] at hSw ⊢; go_simp <;> with_reducible rfl)
                  try simp only [Act.put, List.setIfInBounds_toArray, List.set_cons_zero, List.set_cons_succ]
                  refine takeLW 37 ltO36 (some 167) ?_ ?_ (by assumption) ?_
                  rotate_left
                  · (intro w hSw; dsimp only [ltO36] at hSw ⊢; go_simp <;> with_reducible rfl)
                  try simp only [Act.put, List.setIfInBounds_toArray, List.set_cons_zero, List.set_cons_succ]
                  refine takeLW 38 ltO37 (some 168) ?_ ?_ (by assumption) ?_
                  rotate_left
                  · (intro w hSw; dsimp only [ltO37] at hSw ⊢; go_simp <;> with_reducible rfl)
                  try simp only [Act.put, List.setIfInBounds_toArray, List.set_cons_zero, List.set_cons_succ]
                  refine wpAnyH_ready (rs := [39]) (by kernel_rfl) (by simp) ?_
                  refine AllReadyH.cons (o := { dst := some 169, op := Go.Op.call { callee := Go.Callee.value (Go.Operand.func 70), args := #[Go.Operand.tmp 166, Go.Operand.tmp 168], argTypes := #[33, 3] }, type := 3, pos := "ref.go:79", after := #[{ on := 36, ground := Go.Ground.data }, { on := 38, ground := Go.Ground.data }, { on := 35, ground := Go.Ground.chain }, { on := 35, ground := Go.Ground.guard }], guard := some (35, false) }) rfl (fun K hK => ?_) AllReadyH.nil
                  go_simp
                  refine (HTI.out _ ?_).mono ?_
                  · exact (LtsS.last (P := P) (f := f) (vL := .slice (some ⟨b, off, none⟩) q cap) (L0 := L0) (vg := 0) (vr := 0) (vi := l.id) (vs := (-1)) (vo := l.over) (by assumption))
                  rintro e w3 ⟨rfl, hbw⟩
                  go_wp2_with fail
                  refine hK.out _ _ ?_ (fun hHeld => ?_)
                  · exact LtsS.of hP hL0 HS1.out ((LtsS.last (P := P) (f := f) (vL := .slice (some ⟨b, off, none⟩) q cap) (L0 := L0) (vg := 0) (vr := 0) (vi := l.id) (vs := (-1)) (vo := l.over) (by assumption)).trans (hbw.mono (LtsS.last (P := P) (f := f) (vL := .slice (some ⟨b, off, none⟩) q cap) (L0 := L0) (vg := 0) (vr := 0) (vi := l.id) (vs := (-1)) (vo := l.over) (by assumption)).size))
                  clear hK K hbw
                  try simp only [Act.put, List.setIfInBounds_toArray, List.set_cons_zero, List.set_cons_succ]
                  refine takeLW 40 ltO39 (some 170) ?_ ?_ (by assumption) ?_
                  rotate_left
                  · (intro w hSw; dsimp only [ltO39] at hSw ⊢; go_simp <;> with_reducible rfl)
                  try simp only [Act.put, List.setIfInBounds_toArray, List.set_cons_zero, List.set_cons_succ]
                  refine takeLW 41 ltO40 (some 171) ?_ ?_ (by assumption) ?_
                  rotate_left
                  · (intro w hSw; dsimp only [ltO40] at hSw ⊢; go_simp <;> with_reducible rfl)
                  try simp only [Act.put, List.setIfInBounds_toArray, List.set_cons_zero, List.set_cons_succ]
                  refine wpAnyH_done (by kernel_rfl) ?_ _
                  have hS : LtsS P f (.slice (some ⟨b, off, none⟩) q cap) L0 (0) (0) (l.id) ((-1)) (l.over) wr w3 := by assumption
                  have HSS := Lib.hid hS.last
                  clear hS
                  go_wp2_with fail
                  go_roundw
                  case rel => exact Y.out _ HSS.out
                  case measure => simp [intOf]; omega
            · have e1 : (l.kind == 1) = false := by rw [beq_eq_false_iff_ne]; exact k1
              have e2 : (l.kind == 2) = false := by rw [beq_eq_false_iff_ne]; exact k2
              have N := Lib.hid (NO.out (fun c => by
                rcases c with c | c
                · exact k1 c.1
                · exact k2 c.1) wr (Below.refl _ _))
              clear NO YES
              go_wp2_with fail
              go_ret
              exact N.out
    · obtain rfl : j = n := by omega
      go_wp2_with fail
      go_ret
      exact LtsPost.yes (fun l hm => by
        obtain ⟨k, hk, rfl⟩ := List.getElem_of_mem hm
        exact HALL.out k _ (by rw [← HL.out]; exact hk) (List.getElem?_eq_getElem hk)) (HB0.out.trans (HB.out.mono HB0.out.size))

end Go.Proofs.YtbbpockkafbfmaaDoor
