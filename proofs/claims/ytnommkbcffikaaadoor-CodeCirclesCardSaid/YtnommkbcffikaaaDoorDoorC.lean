/-
  What the listed tables give the walks of codes: strconv.Itoa at every integer.
-/
import Derived.Test.YtnommkbcffikaaaDoorDoor
import Derived.Test.YtnommkbcffikaaaDoorShelf
import Derived.Test.YtnommkbcffikaaaDoorWordC
import Derived.MakeChecks
import Derived.WalkSmall
import Derived.Stop.LaidErr
import Derived.Lib.AppendIntMem
namespace Go.Proofs.YtnommkbcffikaaaDoor
open Go.ChangeShapes Go.WideShapes Go.ChangeAt Go.RowKit

theorem itoa_of_laid {W : World} (h : laidMetH Tryd.prog laid3 W) : ItoaAll W := by
  rw [MakeChecks.laidMetH_plain _ _ _ (by kernel_rfl)] at h
  have hT : Lib.TabIs Tryd.prog W "internal/strconv.uint64pow10" .u64 Lib.pow10Tab := Lib.tabIs_of_head (rest := laid3.drop 3) gTab gTabType (n := 20) (e := 140) (by kernel_rfl) (by kernel_rfl) (by kernel_rfl) (by kernel_rfl) h.tail.tail
  have hT0 := hT.cell gTab 0 (by decide)
  have hlt := World.block_lt_of_cell? W _ hT0
  intro x hx V hV
  refine (Tryd.strconv_Itoa x hx.1 hx.2 V (var?_below hV gTab hlt hT)).mono ?_
  rintro e W' ⟨rfl, k, os, rfl⟩
  exact ⟨rfl, Lib.below_grow _ _ (Nat.le_refl _) _ _⟩

end Go.Proofs.YtnommkbcffikaaaDoor
