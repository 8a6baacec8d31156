/-
  The walks of the reference's Passes, In, times, Down.
-/
import Derived.Test.YtbbpockkafbfmaaDoorLet2
namespace Go.Proofs.YtbbpockkafbfmaaDoor
open Go.RowKit

def isPass (l : Lt) : Bool := decide (l.kind = 1)
def inGate (g : Int) (l : Lt) : Bool := decide (l.kind = 1) && decide (l.gate = g)
def isId (i : Int) (l : Lt) : Bool := decide (l.kind = 2) && decide (l.id = i)

set_option maxHeartbeats 2000000 in
theorem passes_wide (f : Int) (A : Option Addr) (n cap : Nat) (ls : List Lt) (w : World) (h : LS w A n ls) (hn : n ≤ 9223372036854775807) :
    Calls Tryd.prog 20 #[.agg #[.int .i64 f, .slice A n cap]] w fun e w' => e = .returned (.int .i64 (cntB isPass ls)) ∧ Below w.heap.size w w' := by
  have HL := Lib.hid h.1
  go_enter Tryd.func20, Tryd.ntmps20
  go_wp2_with fail
  have HX := Lib.hid (Box.made w f A n cap 33)
  have HB0 : Hid (Below w.heap.size w (w.alloc (.cells #[.int .i64 f, .slice A n cap] 33))) := (Below.refl _ _).alloc (Nat.le_refl _) _
  obtain ⟨W0, hW0⟩ : ∃ W0, W0 = w.alloc (.cells #[.int .i64 f, .slice A n cap] 33) := ⟨_, rfl⟩
  obtain ⟨P, hP⟩ : ∃ P, P = w.heap.size := ⟨_, rfl⟩
  rw [← hW0] at HX HB0 ⊢
  rw [← hP] at HX ⊢
  clear hW0 hP
  go_loopw [3, 4] (fun v iv wr => PrRel ls n isPass W0 v iv wr) (fun _ iv _ => n - (intOf iv).toNat)
  case atStart => exact ⟨0, Nat.zero_le _, rfl, rfl, Below.refl _ _⟩
  case round =>
    obtain ⟨j, hj, rfl, rfl, hb⟩ := hrel
    have HB := Lib.hid hb
    obtain ⟨hP, x0, x1⟩ := HX.out.below hb
    have b0 := cntB_nonneg isPass (ls.take j)
    have b1 := cntB_take_le isPass ls j
    obtain ⟨c, hc⟩ : ∃ c, cntB isPass (ls.take j) = c := ⟨_, rfl⟩
    rw [hc] at b0 b1 ⊢
    by_cases hlt : j < n
    · obtain ⟨b, off, l, rfl, hbl, hl, c0, c1, c2, c3, c4, c5⟩ := ((h.below HB0.out).below hb).at_ (k := j) (by omega)
      have hj1 : (j : Int) < n := by omega
      have hj2 : (j : Int) < n := by omega
      have HS := Lib.hid (cntB_succ (p := isPass) hl)
      rw [hc] at HS
      clear hl hb hc
      by_cases hk : l.kind = 1
      · have hke : (l.kind == 1) = true := by rw [beq_iff_eq]; exact hk
        have HK := Lib.hid hk
        clear hk
        go_wp2_with fail
        go_roundw
        case rel => exact ⟨j + 1, by omega, by rw [Int.natCast_add]; rfl, by rw [HS.out, if_pos (by simpa [isPass] using HK.out)], HB.out⟩
        case measure => simp [intOf]; omega
      · have hke : (l.kind == 1) = false := by rw [beq_eq_false_iff_ne]; exact hk
        have HK := Lib.hid hk
        clear hk
        go_wp2_with fail
        go_roundw
        case rel => exact ⟨j + 1, by omega, by rw [Int.natCast_add]; rfl, by rw [HS.out, if_neg (by simp [isPass, HK.out]), Int.add_zero], HB.out⟩
        case measure => simp [intOf]; omega
    · obtain rfl : j = n := by omega
      go_wp2_with fail
      go_ret
      rw [List.take_of_length_le (by rw [HL.out]; omega)] at hc
      exact ⟨ret_i64 hc.symm, HB0.out.trans (HB.out.mono HB0.out.size)⟩
theorem passes_calls (f : Int) (A : Option Addr) (n cap : Nat) (ls : List Lt) (w : World) (h : LS w A n ls) (hn : n ≤ 1000000) :
    Calls Tryd.prog 20 #[.agg #[.int .i64 f, .slice A n cap]] w fun e w' => e = .returned (.int .i64 (cntB isPass ls)) ∧ Below w.heap.size w w' :=
  passes_wide f A n cap ls w h (by omega)

set_option maxHeartbeats 2000000 in
theorem in_calls (f : Int) (A : Option Addr) (n cap : Nat) (ls : List Lt) (g : Int) (w : World) (h : LS w A n ls) (hn : n ≤ 1000000) :
    Calls Tryd.prog 69 #[.agg #[.int .i64 f, .slice A n cap], .int .i64 g] w fun e w' => e = .returned (.int .i64 (cntB (inGate g) ls)) ∧ Below w.heap.size w w' := by
  have HL := Lib.hid h.1
  go_enter Tryd.func69, Tryd.ntmps69
  go_wp2_with fail
  have HX := Lib.hid (Box.made w f A n cap 33)
  have HB0 : Hid (Below w.heap.size w (w.alloc (.cells #[.int .i64 f, .slice A n cap] 33))) := (Below.refl _ _).alloc (Nat.le_refl _) _
  obtain ⟨W0, hW0⟩ : ∃ W0, W0 = w.alloc (.cells #[.int .i64 f, .slice A n cap] 33) := ⟨_, rfl⟩
  obtain ⟨P, hP⟩ : ∃ P, P = w.heap.size := ⟨_, rfl⟩
  rw [← hW0] at HX HB0 ⊢
  rw [← hP] at HX ⊢
  clear hW0 hP
  go_loopw [5, 6] (fun v iv wr => PrRel ls n (inGate g) W0 v iv wr) (fun _ iv _ => n - (intOf iv).toNat)
  case atStart => exact ⟨0, Nat.zero_le _, rfl, rfl, Below.refl _ _⟩
  case round =>
    obtain ⟨j, hj, rfl, rfl, hb⟩ := hrel
    have HB := Lib.hid hb
    obtain ⟨hP, x0, x1⟩ := HX.out.below hb
    have b0 := cntB_nonneg (inGate g) (ls.take j)
    have b1 := cntB_take_le (inGate g) ls j
    obtain ⟨c, hc⟩ : ∃ c, cntB (inGate g) (ls.take j) = c := ⟨_, rfl⟩
    rw [hc] at b0 b1 ⊢
    by_cases hlt : j < n
    · obtain ⟨b, off, l, rfl, hbl, hl, c0, c1, c2, c3, c4, c5⟩ := ((h.below HB0.out).below hb).at_ (k := j) (by omega)
      have hj1 : (j : Int) < n := by omega
      have hj2 : (j : Int) < n := by omega
      have HS := Lib.hid (cntB_succ (p := (inGate g)) hl)
      rw [hc] at HS
      clear hl hb hc
      by_cases hk : l.kind = 1
      · have hke : (l.kind == 1) = true := by rw [beq_iff_eq]; exact hk
        have HK := Lib.hid hk
        clear hk
        by_cases hg : l.gate = g
        · have hge : (l.gate == g) = true := by rw [beq_iff_eq]; exact hg
          have HG := Lib.hid hg
          clear hg
          go_wp2_with fail
          go_roundw
          case rel => exact ⟨j + 1, by omega, by rw [Int.natCast_add]; rfl, by rw [HS.out, if_pos (by simp [inGate, HK.out, HG.out])], HB.out⟩
          case measure => simp [intOf]; omega
        · have hge : (l.gate == g) = false := by rw [beq_eq_false_iff_ne]; exact hg
          have HG := Lib.hid hg
          clear hg
          go_wp2_with fail
          go_roundw
          case rel => exact ⟨j + 1, by omega, by rw [Int.natCast_add]; rfl, by rw [HS.out, if_neg (by simp [inGate, HG.out]), Int.add_zero], HB.out⟩
          case measure => simp [intOf]; omega
      · have hke : (l.kind == 1) = false := by rw [beq_eq_false_iff_ne]; exact hk
        have HK := Lib.hid hk
        clear hk
        go_wp2_with fail
        go_roundw
        case rel => exact ⟨j + 1, by omega, by rw [Int.natCast_add]; rfl, by rw [HS.out, if_neg (by simp [inGate, HK.out]), Int.add_zero], HB.out⟩
        case measure => simp [intOf]; omega
    · obtain rfl : j = n := by omega
      go_wp2_with fail
      go_ret
      rw [List.take_of_length_le (by rw [HL.out]; omega)] at hc
      exact ⟨ret_i64 hc.symm, HB0.out.trans (HB.out.mono HB0.out.size)⟩

set_option maxHeartbeats 2000000 in
theorem times_calls (f : Int) (A : Option Addr) (n cap : Nat) (ls : List Lt) (g : Int) (w : World) (h : LS w A n ls) (hn : n ≤ 1000000) :
    Calls Tryd.prog 70 #[.agg #[.int .i64 f, .slice A n cap], .int .i64 g] w fun e w' => e = .returned (.int .i64 (cntB (isId g) ls)) ∧ Below w.heap.size w w' := by
  have HL := Lib.hid h.1
  go_enter Tryd.func70, Tryd.ntmps70
  go_wp2_with fail
  have HX := Lib.hid (Box.made w f A n cap 33)
  have HB0 : Hid (Below w.heap.size w (w.alloc (.cells #[.int .i64 f, .slice A n cap] 33))) := (Below.refl _ _).alloc (Nat.le_refl _) _
  obtain ⟨W0, hW0⟩ : ∃ W0, W0 = w.alloc (.cells #[.int .i64 f, .slice A n cap] 33) := ⟨_, rfl⟩
  obtain ⟨P, hP⟩ : ∃ P, P = w.heap.size := ⟨_, rfl⟩
  rw [← hW0] at HX HB0 ⊢
  rw [← hP] at HX ⊢
  clear hW0 hP
  go_loopw [5, 6] (fun v iv wr => PrRel ls n (isId g) W0 v iv wr) (fun _ iv _ => n - (intOf iv).toNat)
  case atStart => exact ⟨0, Nat.zero_le _, rfl, rfl, Below.refl _ _⟩
  case round =>
    obtain ⟨j, hj, rfl, rfl, hb⟩ := hrel
    have HB := Lib.hid hb
    obtain ⟨hP, x0, x1⟩ := HX.out.below hb
    have b0 := cntB_nonneg (isId g) (ls.take j)
    have b1 := cntB_take_le (isId g) ls j
    obtain ⟨c, hc⟩ : ∃ c, cntB (isId g) (ls.take j) = c := ⟨_, rfl⟩
    rw [hc] at b0 b1 ⊢
    by_cases hlt : j < n
    · obtain ⟨b, off, l, rfl, hbl, hl, c0, c1, c2, c3, c4, c5⟩ := ((h.below HB0.out).below hb).at_ (k := j) (by omega)
      have hj1 : (j : Int) < n := by omega
      have hj2 : (j : Int) < n := by omega
      have HS := Lib.hid (cntB_succ (p := (isId g)) hl)
      rw [hc] at HS
      clear hl hb hc
      by_cases hk : l.kind = 2
      · have hke : (l.kind == 2) = true := by rw [beq_iff_eq]; exact hk
        have HK := Lib.hid hk
        clear hk
        by_cases hg : l.id = g
        · have hge : (l.id == g) = true := by rw [beq_iff_eq]; exact hg
          have HG := Lib.hid hg
          clear hg
          go_wp2_with fail
          go_roundw
          case rel => exact ⟨j + 1, by omega, by rw [Int.natCast_add]; rfl, by rw [HS.out, if_pos (by simp [isId, HK.out, HG.out])], HB.out⟩
          case measure => simp [intOf]; omega
        · have hge : (l.id == g) = false := by rw [beq_eq_false_iff_ne]; exact hg
          have HG := Lib.hid hg
          clear hg
          go_wp2_with fail
          go_roundw
          case rel => exact ⟨j + 1, by omega, by rw [Int.natCast_add]; rfl, by rw [HS.out, if_neg (by simp [isId, HG.out]), Int.add_zero], HB.out⟩
          case measure => simp [intOf]; omega
      · have hke : (l.kind == 2) = false := by rw [beq_eq_false_iff_ne]; exact hk
        have HK := Lib.hid hk
        clear hk
        go_wp2_with fail
        go_roundw
        case rel => exact ⟨j + 1, by omega, by rw [Int.natCast_add]; rfl, by rw [HS.out, if_neg (by simp [isId, HK.out]), Int.add_zero], HB.out⟩
        case measure => simp [intOf]; omega
    · obtain rfl : j = n := by omega
      go_wp2_with fail
      go_ret
      rw [List.take_of_length_le (by rw [HL.out]; omega)] at hc
      exact ⟨ret_i64 hc.symm, HB0.out.trans (HB.out.mono HB0.out.size)⟩

theorem ret_bool2 {a b : Bool} (h : a = b) : Ending.returned (.bool a) = .returned (.bool b) := by rw [h]
/-- A pass goes down: as many passes stand before it as an even number. -/
def downB (ls : List Lt) (i : Nat) : Bool := decide (cntB isPass (ls.take i) % 2 = 0)

set_option maxHeartbeats 2000000 in
theorem down_calls (f : Int) (A : Option Addr) (n cap : Nat) (ls : List Lt) (i : Nat) (w : World) (h : LS w A n ls) (hn : n ≤ 1000000) (hi : i ≤ n) :
    Calls Tryd.prog 51 #[.agg #[.int .i64 f, .slice A n cap], .int .i64 (i : Int)] w fun e w' => e = .returned (.bool (downB ls i)) ∧ Below w.heap.size w w' := by
  have HL := Lib.hid h.1
  go_enter Tryd.func51, Tryd.ntmps51
  go_wp2_with fail
  have HX := Lib.hid (Box.made w f A n cap 33)
  have HB0 : Hid (Below w.heap.size w (w.alloc (.cells #[.int .i64 f, .slice A n cap] 33))) := (Below.refl _ _).alloc (Nat.le_refl _) _
  obtain ⟨W0, hW0⟩ : ∃ W0, W0 = w.alloc (.cells #[.int .i64 f, .slice A n cap] 33) := ⟨_, rfl⟩
  obtain ⟨P, hP⟩ : ∃ P, P = w.heap.size := ⟨_, rfl⟩
  rw [← hW0] at HX HB0 ⊢
  rw [← hP] at HX ⊢
  clear hW0 hP
  go_loopw [5, 6] (fun v iv wr => PrRel ls i isPass W0 v iv wr) (fun _ iv _ => i - (intOf iv).toNat)
  case atStart => exact ⟨0, Nat.zero_le _, rfl, rfl, Below.refl _ _⟩
  case round =>
    obtain ⟨j, hj, rfl, rfl, hb⟩ := hrel
    have HB := Lib.hid hb
    obtain ⟨hP, x0, x1⟩ := HX.out.below hb
    have b0 := cntB_nonneg isPass (ls.take j)
    have b1 := cntB_take_le isPass ls j
    obtain ⟨c, hc⟩ : ∃ c, cntB isPass (ls.take j) = c := ⟨_, rfl⟩
    rw [hc] at b0 b1 ⊢
    by_cases hlt : j < i
    · obtain ⟨b, off, l, rfl, hbl, hl, c0, c1, c2, c3, c4, c5⟩ := ((h.below HB0.out).below hb).at_ (k := j) (by omega)
      have hj1 : (j : Int) < i := by omega
      have hj2 : (j : Int) < n := by omega
      have HS := Lib.hid (cntB_succ (p := isPass) hl)
      rw [hc] at HS
      clear hl hb hc
      by_cases hk : l.kind = 1
      · have hke : (l.kind == 1) = true := by rw [beq_iff_eq]; exact hk
        have HK := Lib.hid hk
        clear hk
        go_wp2_with fail
        go_roundw
        case rel => exact ⟨j + 1, by omega, by rw [Int.natCast_add]; rfl, by rw [HS.out, if_pos (by simpa [isPass] using HK.out)], HB.out⟩
        case measure => simp [intOf]; omega
      · have hke : (l.kind == 1) = false := by rw [beq_eq_false_iff_ne]; exact hk
        have HK := Lib.hid hk
        clear hk
        go_wp2_with fail
        go_roundw
        case rel => exact ⟨j + 1, by omega, by rw [Int.natCast_add]; rfl, by rw [HS.out, if_neg (by simp [isPass, HK.out]), Int.add_zero], HB.out⟩
        case measure => simp [intOf]; omega
    · obtain rfl : j = i := by omega
      have hd : (c % 2 = 0) ∨ (c % 2 = 1) := by omega
      rcases hd with hd | hd
      · have hde : (c % 2 == 0) = true := by rw [beq_iff_eq]; exact hd
        have HD := Lib.hid hd
        have HC := Lib.hid hc
        clear hd hc
        go_wp2_with fail
        go_ret
        exact ⟨ret_bool2 (by unfold downB; rw [HC.out, HD.out]; rfl), HB0.out.trans (HB.out.mono HB0.out.size)⟩
      · have hde : (c % 2 == 0) = false := by rw [beq_eq_false_iff_ne]; omega
        have HD := Lib.hid hd
        have HC := Lib.hid hc
        clear hd hc
        go_wp2_with fail
        go_ret
        exact ⟨ret_bool2 (by unfold downB; rw [HC.out, HD.out]; rfl), HB0.out.trans (HB.out.mono HB0.out.size)⟩

theorem Lt.ext {a b : Lt} (h1 : a.kind = b.kind) (h2 : a.gate = b.gate) (h3 : a.rank = b.rank) (h4 : a.id = b.id) (h5 : a.sign = b.sign) (h6 : a.over = b.over) : a = b := by
  cases a; cases b; simp_all
theorem Lt.ne_cases {a b : Lt} (h : a ≠ b) : a.kind ≠ b.kind ∨ (a.kind = b.kind ∧ a.gate ≠ b.gate) ∨ (a.kind = b.kind ∧ a.gate = b.gate ∧ a.rank ≠ b.rank) ∨ (a.kind = b.kind ∧ a.gate = b.gate ∧ a.rank = b.rank ∧ a.id ≠ b.id) ∨
    (a.kind = b.kind ∧ a.gate = b.gate ∧ a.rank = b.rank ∧ a.id = b.id ∧ a.sign ≠ b.sign) ∨ (a.kind = b.kind ∧ a.gate = b.gate ∧ a.rank = b.rank ∧ a.id = b.id ∧ a.sign = b.sign ∧ a.over ≠ b.over) := by
  by_cases h1 : a.kind = b.kind
  · by_cases h2 : a.gate = b.gate
    · by_cases h3 : a.rank = b.rank
      · by_cases h4 : a.id = b.id
        · by_cases h5 : a.sign = b.sign
          · by_cases h6 : a.over = b.over
            · exact absurd (Lt.ext h1 h2 h3 h4 h5 h6) h
            · exact .inr (.inr (.inr (.inr (.inr ⟨h1, h2, h3, h4, h5, h6⟩))))
          · exact .inr (.inr (.inr (.inr (.inl ⟨h1, h2, h3, h4, h5⟩))))
        · exact .inr (.inr (.inr (.inl ⟨h1, h2, h3, h4⟩)))
      · exact .inr (.inr (.inl ⟨h1, h2, h3⟩))
    · exact .inr (.inl ⟨h1, h2⟩)
  · exact .inl h1

end Go.Proofs.YtbbpockkafbfmaaDoor
