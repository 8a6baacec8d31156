/-
  What the cards of CodePrints and CodeParses share: the seven listed variables at the start, and what the walks are told of them.
-/
import Derived.Test.YtplpccgbciglpaaGreatDoorDoorL
import Derived.Test.YtplpccgbciglpaaGreatDoorParB
import Derived.Lib.LaidU8
import Derived.Lay
namespace Go.Proofs.YtplpccgbciglpaaGreatDoor
open Go.ChangeShapes Go.WideShapes Go.ChangeAt Go.RowKit

/-- The seven variables. -/
def laid7 : List (String × DataW Unit) := [("math/bits.deBruijn32tab", Rows.laid_math_bits_deBruijn32tab), ("math/bits.deBruijn64tab", Rows.laid_math_bits_deBruijn64tab), ("internal/strconv.uint64pow10", Rows.laid_internal_strconv_uint64pow10), ("strconv.ErrRange", Rows.laid_strconv_ErrRange), ("strconv.ErrSyntax", Rows.laid_strconv_ErrSyntax), ("unicode.White_Space", Rows.laid_unicode_White_Space), ("strings.asciiSpace", Rows.laid_strings_asciiSpace)]

set_option maxRecDepth 100000 in
/-- A world in which they are laid meets the condition. -/
theorem door_met7 (os : Os) (args : Array Value) : laidMetH Tryz.prog laid7 ((World.laidAll Tryz.prog os laid7).forCall (fun _ _ => 0) ⟨#[], args, []⟩).memory := by
  rw [MakeChecks.laidMetH_plain _ _ _ (by kernel_rfl)]
  exact laidMet_laidAll _ (by kernel_rfl) (by kernel_rfl)

/-- The wrap, with the world's shape handed on. -/
theorem wrap7 {C : Checked} {H : Type} {enc : TypeId × Value → H} {os : Os} {f : FuncId} {fn : Func} {s : ChangeSpec} {apart fresh handsOn again : Bool} {l : List (String × DataW Unit)}
    (own : ownKnob C.prog.godebug = none) (started : os.Started) (noInit : C.prog.inits.idxOf? f = none) (hfn : C.prog.funcs[f]? = some fn)
    (witness : ∃ (w : World) (tape : Tape) (i : Input), w.os = os ∧ (w.forCall tape i).Shaped C.prog ∧ i.vars = [] ∧ Input.okWide C.prog (w.forCall tape i) .any w.heap.size f i ∧
      ((s.pre enc C.prog fn [] apart (w.forCall tape i).memory i.args ∧ laidMetH C.prog l (w.forCall tape i).memory) ∧ sizedMet enc C.prog fn (OpenSpec.ofChange s) apart (w.forCall tape i).memory i.args) ∧ ({} : Assume).holds C.prog (lone (Frame.enter C.prog f i.args .normal) [] (w.forCall tape i)))
    (contract : ∀ (W : World) (base : Nat) (args : Array Value) (ds gs : List (DataW H)) (before : List MemPlace),
      (∀ (j : Nat) t v, fn.params[j]? = some t → args[j]? = some v → Value.okWide C.prog W .any base t v) →
      DataW.Whole enc C.prog fn.params.toList s.vars apart W args.toList ds gs before → laidMetH C.prog l W → W.ShapedOpen C.prog →
      Calls C.prog f args W fun e W' => ∃ v, e = .returned v ∧ s.post enc C.prog fn apart fresh handsOn again W args v W') :
    ReturnsInHanded {} C os f .any (fun w args => (s.pre enc C.prog fn [] apart w args ∧ laidMetH C.prog l w) ∧ sizedMet enc C.prog fn (OpenSpec.ofChange s) apart w args) (s.post enc C.prog fn apart fresh handsOn again) := by
  refine returnsInHanded_of_calls own started noInit witness ?_
  intro w tape i _ hsh _ hok hpre _
  obtain ⟨_, _, _, fn', hfn', _, _, _, _, hval⟩ := hok
  obtain rfl : fn' = fn := Option.some.inj (hfn'.symm.trans hfn)
  obtain ⟨⟨⟨ds, gs, before, hw, _⟩, hx⟩, _⟩ := hpre
  refine (contract (w.forCall tape i) w.heap.size i.args ds gs before hval (DataW.Whole.of_heap (w' := w.forCall tape i) (by rfl) hw) (hx.of_heap (by rfl)) hsh).mono fun e W' ⟨v, he, hp⟩ => ?_
  subst he
  exact ChangeSpec.post_blind hp

theorem gRange : Tryz.prog.globalNamed "strconv.ErrRange" = some 4 := by kernel_rfl
theorem gRangeType : (Tryz.prog.globals[4]?).map (·.type) = some 56 := by kernel_rfl
theorem gSyntax : Tryz.prog.globalNamed "strconv.ErrSyntax" = some 3 := by kernel_rfl
theorem gSyntaxType : (Tryz.prog.globals[3]?).map (·.type) = some 56 := by kernel_rfl
theorem starErr : "*" ++ "errors.errorString" = "*errors.errorString" := by decide
theorem rowErr (u : TypeId) (h : Tryz.prog.typeName? 3 u = some "*errors.errorString") : u = 160 :=
  typeName_ptr_named (nm := "errors.errorString") (by rw [starErr]; kernel_rfl) (by kernel_rfl) (by decide) u (by rw [starErr]; exact h)
theorem gSp : Tryz.prog.globalNamed "strings.asciiSpace" = some 0 := by kernel_rfl
theorem gSpType : (Tryz.prog.globals[0]?).map (·.type) = some 86 := by kernel_rfl
theorem whiteX : Go.Proofs.WhiteExtra Tryz.prog Tryz.lays199_ren := ⟨by kernel_rfl, by kernel_rfl, by kernel_rfl, by kernel_rfl, by kernel_rfl, by kernel_rfl, by kernel_rfl, by kernel_rfl⟩

set_option maxRecDepth 100000 in
theorem tabs_of_laid {W : World} (h : laidMetH Tryz.prog laid7 W) (hs : W.ShapedOpen Tryz.prog) : LibW W := by
  rw [MakeChecks.laidMetH_plain _ _ _ (by kernel_rfl)] at h
  obtain ⟨m, hm⟩ := Tryz.laysM145.s1_3 W hs
  have hmlt := World.block_lt_of_cell? W _ hm
  have hT : Lib.TabIs Tryz.prog W "internal/strconv.uint64pow10" .u64 Lib.pow10Tab := Lib.tabIs_of_head (rest := laid7.drop 3) gTab gTabType (n := 20) (e := 128) (by kernel_rfl) (by kernel_rfl) (by kernel_rfl) (by kernel_rfl) h.tail.tail
  have hTlt := World.block_lt_of_cell? W _ (hT.cell gTab 0 (by decide))
  obtain ⟨a0, s0, hv0, _⟩ := laid_sentinel h.tail.tail.tail gRange gRangeType Tryz.underlying56 rowErr Tryz.underlying160 Tryz.underlying162 rfl rfl Tryz.underlying9 (by kernel_rfl) (by kernel_rfl)
  obtain ⟨a1, s1, hv1, _⟩ := laid_sentinel h.tail.tail.tail.tail gSyntax gSyntaxType Tryz.underlying56 rowErr Tryz.underlying160 Tryz.underlying162 rfl rfl Tryz.underlying9 (by kernel_rfl) (by kernel_rfl)
  have hR : W.cell? ⟨4, 0, none⟩ = some (.iface 160 (.pointer (some a0))) := by simpa using World.var?_cell gRange hv0 0
  have hS : W.cell? ⟨3, 0, none⟩ = some (.iface 160 (.pointer (some a1))) := by simpa using World.var?_cell gSyntax hv1 0
  have hRlt := World.block_lt_of_cell? W _ hR
  have hSlt := World.block_lt_of_cell? W _ hS
  have hSp : Lib.TabIs Tryz.prog W "strings.asciiSpace" .u8 Lib.asciiSpaceTab := Lib.tabIs_of_head (rest := laid7.drop 7) gSp gSpType (n := 256) (e := 5) (by kernel_rfl) (by kernel_rfl) (by kernel_rfl) (by kernel_rfl) h.tail.tail.tail.tail.tail.tail
  have hSplt := World.block_lt_of_cell? W _ (hSp.cell gSp 0 (by rw [Lib.asciiSpaceTab_length]; decide))
  have hWh : Lib.WhiteTab 1 W := Go.Proofs.whiteTab_of_reads Tryz.lays199 whiteX (Lib.laidMet.reads h (d := Lib.whiteData) (by
    have e : Rows.laid_unicode_White_Space = Lib.whiteData := by kernel_rfl
    rw [← e]
    exact .tail _ (.tail _ (.tail _ (.tail _ (.tail _ (.head _)))))))
  refine ⟨fun x hx V hV => ?_, fun V hV s c hsz => ?_, fun V hV s hsz => ?_, fun V hV s hsz => ?_, fun V hV s c hsz => ?_⟩
  · refine (Tryz.strconv_Itoa x hx.1 hx.2 V (var?_below hV gTab hTlt hT)).mono ?_
    rintro e W' ⟨rfl, k, os, rfl⟩
    exact ⟨rfl, Lib.below_grow _ _ (Nat.le_refl _) _ _⟩
  · refine (Tryz.strings_Cut s ⟨#[c]⟩ m V (by omega) ((hV.cell hmlt).trans hm)).mono ?_
    rintro e W' ⟨rfl, n, rfl⟩
    exact ⟨rfl, Go.below_drewN (Below.refl _ _) _⟩
  · cases ha : Lib.atoiAll s.data.toList with
    | ok v =>
      refine (Tryz.strconv_Atoi_ok s (by omega) v ha V).mono ?_
      rintro e W' ⟨rfl, hw⟩
      refine ⟨.nilIface, by unfold numV; rw [ha], ?_⟩
      rcases hw with rfl | ⟨t, rfl⟩
      · exact Below.refl _ _
      · exact Lib.bytesWorld_below _ _ _
    | «syntax» =>
      refine (Tryz.strconv_Atoi_syntax s (by omega) ha _ V ((hV.cell hSlt).trans hS) (.inr ⟨_, _, rfl⟩)).mono ?_
      rintro e W' ⟨K, rfl, _, _, hb⟩
      exact ⟨_, by unfold numV; rw [ha], hb⟩
    | range =>
      refine (Tryz.strconv_Atoi_range s (by omega) ha _ V ((hV.cell hRlt).trans hR) (.inr ⟨_, _, rfl⟩)).mono ?_
      rintro e W' ⟨K, rfl, _, _, hb⟩
      exact ⟨_, by unfold numV; rw [ha], hb⟩
  · refine (Tryz.strings_Fields_any s V (by omega) (var?_below hV gSp hSplt hSp) (Go.Proofs.WhiteTab_below hWh (hV.mono (Nat.le_refl _)))).mono ?_
    rintro e W' ⟨A, rfl, hA, ho, hb⟩
    refine ⟨A, rfl, hA, (World.ownsRow.lt ho A rfl).2, fun k x hx => ?_, hb⟩
    exact (ownsRow_cell ho (by rw [List.getElem?_map, hx]; rfl)).1
  · refine (Tryz.strings_Contains_one s c V).mono ?_
    rintro e W' ⟨rfl, rfl⟩
    exact ⟨by rw [cont_iff], Below.refl _ _⟩

end Go.Proofs.YtplpccgbciglpaaGreatDoor
