/-
  The walks of line.ahead and line.order.
-/
import Derived.Test.YtenomnkdfiojbaaDoorCompare
namespace Go.Proofs.YtenomnkdfiojbaaDoor
open Go.RowKit

def aheadM (a b : Int) : Int := (b - a + 41) % 41

set_option maxHeartbeats 400000 in
theorem ahead_calls (a b : Int) (w : World) (a0 : 0 ≤ a) (a1 : a ≤ 40) (b0 : 0 ≤ b) (b1 : b ≤ 40) :
    Calls Tryd.prog 82 #[.int .i64 a, .int .i64 b] w fun e w' => e = .returned (.int .i64 (aheadM a b)) ∧ w = w' := by
  go_enter Tryd.func82, Tryd.ntmps82
  go_wp2
  go_ret
  exact ⟨rfl, rfl⟩

/-- What order answers from step i on. -/
def ordM (xs : List Int) (p q : Nat) : (i rem : Nat) → (side : Int) → Int
  | _, 0, _ => 0
  | i, r + 1, side =>
    if Ln.along xs p i = Ln.along xs q i then ordM xs p q (i + 1) r (-side)
    else side * Lib.compareInt (aheadM (Ln.along xs p (i - 1)) (Ln.along xs q i)) (aheadM (Ln.along xs p (i - 1)) (Ln.along xs p i))
def orderM (xs : List Int) (p q : Nat) : Int := ordM xs p q 1 (xs.length - 1) 1

theorem compareInt_bd (x y : Int) : -1 ≤ Lib.compareInt x y ∧ Lib.compareInt x y ≤ 1 := by
  unfold Lib.compareInt
  split
  · omega
  · split <;> omega

def OrdRel (xs : List Int) (n p q : Nat) (w : World) (side i : Value) (wr : World) : Prop :=
  ∃ (j : Nat) (s : Int), 1 ≤ j ∧ (j ≤ n ∨ j = 1) ∧ i = .int .i64 j ∧ side = .int .i64 s ∧ (s = 1 ∨ s = -1) ∧ orderM xs p q = ordM xs p q j (n - j) s ∧ Below w.heap.size w wr

theorem along_mem {xs : List Int} {n s i : Nat} (hl : xs.length = n) (hn : 0 < n) : Ln.along xs s i ∈ xs := by
  have hlt := alongI_lt (n := n) (s := s) (t := i) hn
  have hx : xs[Ln.alongI n s i]? = some xs[Ln.alongI n s i] := List.getElem?_eq_getElem (by omega)
  rw [along_at hl hx]
  exact List.getElem_mem _

set_option maxHeartbeats 1000000 in
set_option maxRecDepth 100000 in
theorem order_calls (A : Option Addr) (n cap : Nat) (xs : List Int) (p q : Nat) (w : World) (h : SL w A n xs) (hn : n ≤ 400) (hp : p < n) (hq : q < n) (hr : ∀ x, x ∈ xs → 0 ≤ x ∧ x ≤ 40) :
    Calls Tryd.prog 73 #[.slice A n cap, .int .i64 p, .int .i64 q] w fun e w' => e = .returned (.int .i64 (orderM xs p q)) ∧ Below w.heap.size w w' := by
  have HL := Lib.hid h.1
  have HR := Lib.hid hr
  clear hr
  go_enter Tryd.func73, Tryd.ntmps73
  go_wp2_with fail
  go_loopw [7, 8] (fun side i wr => OrdRel xs n p q w side i wr) (fun _ i _ => n - (intOf i).toNat)
  case atStart => exact ⟨1, 1, Nat.le_refl _, .inr rfl, rfl, rfl, .inl rfl, by unfold orderM; rw [HL.out], Below.refl _ _⟩
  case round =>
    obtain ⟨j, s, hj1, hjn, rfl, rfl, hs, hord, hb⟩ := hrel
    have HORD := Lib.hid hord
    have HJ := Lib.hid hjn
    have HS := Lib.hid hs
    have hs1 : -1 ≤ s := by omega
    have hs2 : s ≤ 1 := by omega
    clear hord hjn hs
    by_cases hlt : j < n
    · have HA1 := Lib.hid (along_any A n cap xs p (j - 1) w h hn hp (by omega))
      have HA2 := Lib.hid (along_any A n cap xs p j w h hn hp (by omega))
      have HA3 := Lib.hid (along_any A n cap xs q j w h hn hq (by omega))
      have ej : ((j - 1 : Nat) : Int) = (j : Int) - 1 := by omega
      rw [ej] at HA1
      clear ej
      obtain ⟨f0, hf0⟩ : ∃ x, Ln.along xs p (j - 1) = x := ⟨_, rfl⟩
      obtain ⟨x1, hx1⟩ : ∃ x, Ln.along xs p j = x := ⟨_, rfl⟩
      obtain ⟨x2, hx2⟩ : ∃ x, Ln.along xs q j = x := ⟨_, rfl⟩
      rw [hf0] at HA1
      rw [hx1] at HA2
      rw [hx2] at HA3
      have HF0 := Lib.hid hf0
      have HX1 := Lib.hid hx1
      have HX2 := Lib.hid hx2
      have bf := HR.out _ (hf0 ▸ along_mem (s := p) (i := j - 1) HL.out (by omega))
      have b1 := HR.out _ (hx1 ▸ along_mem (s := p) (i := j) HL.out (by omega))
      have b2 := HR.out _ (hx2 ▸ along_mem (s := q) (i := j) HL.out (by omega))
      have hstep : Hid (ordM xs p q j (n - j) s = if x1 = x2 then ordM xs p q (j + 1) (n - (j + 1)) (-s) else s * Lib.compareInt (aheadM f0 x2) (aheadM f0 x1)) := by
        unfold Hid
        rw [show n - j = (n - (j + 1)) + 1 by omega, ordM, hx1, hx2, hf0]
      clear hf0 hx1 hx2
      obtain ⟨bf1, bf2⟩ := bf
      obtain ⟨b11, b12⟩ := b1
      obtain ⟨b21, b22⟩ := b2
      by_cases hxy : x1 = x2
      · have hst := hstep.out
        rw [if_pos hxy] at hst
        have HST := Lib.hid hst
        subst hxy
        clear hst
        go_wp2_with (first
          | ((with_reducible refine (HA1.out wr hb).mono ?_); rintro e w1 ⟨rfl, hb1⟩; have hbw1 : Below w.heap.size w w1 := hb.trans (hb1.mono hb.size))
          | ((with_reducible refine (HA2.out w1 hbw1).mono ?_); rintro e w2 ⟨rfl, hb2⟩; have hbw2 : Below w.heap.size w w2 := hbw1.trans (hb2.mono hbw1.size))
          | ((with_reducible refine (HA3.out w2 hbw2).mono ?_); rintro e w3 ⟨rfl, hb3⟩; have hbw3 : Below w.heap.size w w3 := hbw2.trans (hb3.mono hbw2.size)))
        go_roundw
        case rel => exact ⟨j + 1, -s, by omega, .inl (by omega), by rw [Int.natCast_add]; rfl, rfl, by have := HS.out; omega, by rw [HORD.out, HST.out], hbw3⟩
        case measure => simp [intOf]; omega
      · have hst := hstep.out
        rw [if_neg hxy] at hst
        have HST := Lib.hid hst
        have hne : (x1 != x2) = true := by rw [bne_iff_ne]; exact hxy
        have HC1 := Lib.hid (fun W => ahead_calls f0 x2 W bf1 bf2 b21 b22)
        have HC2 := Lib.hid (fun W => ahead_calls f0 x1 W bf1 bf2 b11 b12)
        obtain ⟨y1, hy1⟩ : ∃ y, aheadM f0 x2 = y := ⟨_, rfl⟩
        obtain ⟨y2, hy2⟩ : ∃ y, aheadM f0 x1 = y := ⟨_, rfl⟩
        obtain ⟨z, hz⟩ : ∃ z, Lib.compareInt y1 y2 = z := ⟨_, rfl⟩
        have hzb := compareInt_bd y1 y2
        rw [hz] at hzb
        obtain ⟨z1, z2⟩ := hzb
        have hsz : -1 ≤ s * z ∧ s * z ≤ 1 := by
          rcases HS.out with e | e <;> subst e <;> omega
        obtain ⟨sz1, sz2⟩ := hsz
        rw [hy1] at HC1
        rw [hy2] at HC2
        rw [hy1, hy2, hz] at HST
        have HZ := Lib.hid hz
        clear hst hxy hy1 hy2 hz
        go_wp2_with (first
          | ((with_reducible refine (HA1.out wr hb).mono ?_); rintro e w1 ⟨rfl, hb1⟩; have hbw1 : Below w.heap.size w w1 := hb.trans (hb1.mono hb.size))
          | ((with_reducible refine (HA2.out w1 hbw1).mono ?_); rintro e w2 ⟨rfl, hb2⟩; have hbw2 : Below w.heap.size w w2 := hbw1.trans (hb2.mono hbw1.size))
          | ((with_reducible refine (HA3.out w2 hbw2).mono ?_); rintro e w3 ⟨rfl, hb3⟩; have hbw3 : Below w.heap.size w w3 := hbw2.trans (hb3.mono hbw2.size))
          | ((with_reducible refine (HC1.out _).mono ?_); rintro e w4 ⟨rfl, rfl⟩)
          | ((with_reducible refine (HC2.out _).mono ?_); rintro e w4 ⟨rfl, rfl⟩)
          | ((with_reducible refine (Tryd.cmp_Compare_int _ _ _).mono ?_); rw [HZ.out]; rintro e w5 ⟨rfl, rfl⟩))
        go_ret
        exact ⟨ret_int (by rw [HORD.out, HST.out]), hbw3⟩
    · go_wp2_with fail
      go_ret
      refine ⟨ret_int ?_, hb⟩
      rw [HORD.out, show n - j = 0 by omega, ordM]

end Go.Proofs.YtenomnkdfiojbaaDoor
