/-
  RefT RefU, one after the other.
-/
import Derived.Test.YtbbpockkafbfmaaDoorAxM
import Derived.Deep.RegionHeld3

/-
  The walks of the reference's at, along, Other, left.
-/
namespace Go.Proofs.YtbbpockkafbfmaaDoor
open Go.RowKit

def AtPost (xs : List Int) (v : Int) (w : World) (e : Ending) (w' : World) : Prop :=
  ∃ r : Int, e = .returned (.int .i64 r) ∧ ((∃ k : Nat, r = k ∧ xs[k]? = some v) ∨ (r = -1 ∧ ∀ k : Nat, xs[k]? ≠ some v)) ∧ Below w.heap.size w w'
def AtRel (xs : List Int) (v : Int) (n : Nat) (w : World) (i : Value) (wr : World) : Prop := ∃ j : Nat, j ≤ n ∧ i = .int .i64 j ∧ (∀ k, k < j → xs[k]? ≠ some v) ∧ Below w.heap.size w wr

set_option maxHeartbeats 2000000 in
theorem at_calls (A : Option Addr) (n cap : Nat) (xs : List Int) (v : Int) (w : World) (h : SL w A n xs) (hn : n ≤ 1000000) :
    Calls Tryd.prog 104 #[.slice A n cap, .int .i64 v] w (AtPost xs v w) := by
  have HL := Lib.hid h.1
  go_enter Tryd.func104, Tryd.ntmps104
  go_wp2_with fail
  go_loopw [5] (fun iv wr => AtRel xs v n w iv wr) (fun iv _ => n - (intOf iv).toNat)
  case atStart => exact ⟨0, Nat.zero_le _, rfl, fun k hk => by omega, Below.refl _ _⟩
  case round =>
    obtain ⟨j, hj, rfl, hall, hb⟩ := hrel
    have HB := Lib.hid hb
    have HALL := Lib.hid hall
    clear hall
    by_cases hlt : j < n
    · obtain ⟨b, off, x, rfl, hbl, hx, c0⟩ := (h.below hb).at_ hlt
      have hj1 : (j : Int) < n := by omega
      have HX := Lib.hid hx
      clear hx hb
      by_cases he : x = v
      · have hbe : (x == v) = true := by rw [beq_iff_eq]; exact he
        have HE := Lib.hid he
        clear he
        go_wp2_with fail
        go_ret
        exact ⟨j, rfl, .inl ⟨j, rfl, by rw [HX.out, HE.out]⟩, HB.out⟩
      · have hbe : (x == v) = false := by rw [beq_eq_false_iff_ne]; exact he
        have HE := Lib.hid he
        clear he
        go_wp2_with fail
        go_roundw
        case rel => exact ⟨j + 1, by omega, by rw [Int.natCast_add]; rfl, fun k hk => by
          by_cases e : k = j
          · subst e; rw [HX.out]; intro c; injection c with c; exact HE.out c
          · exact HALL.out k (by omega), HB.out⟩
        case measure => simp [intOf]; omega
    · obtain rfl : j = n := by omega
      go_wp2_with fail
      go_ret
      exact ⟨-1, rfl, .inr ⟨rfl, fun k => by
        by_cases hk : k < j
        · exact HALL.out k hk
        · rw [List.getElem?_eq_none (by rw [HL.out]; omega)]; intro c; cases c⟩, HB.out⟩

set_option maxHeartbeats 1000000 in
theorem along_calls (f : Int) (A : Option Addr) (n c i : Nat) (fw : Bool) (w : World) (hn : n ≤ 1000000) (hi : i < n) :
    Calls Tryd.prog 102 #[.agg #[.int .i64 f, .slice A n c], .int .i64 (i : Int), .bool fw] w fun e w' => e = .returned (.int .i64 (alongM n i fw)) ∧ Below w.heap.size w w' := by
  have hni : (0 : Int) < n := by omega
  have HB0 : Hid (Below w.heap.size w (w.alloc (.cells #[.int .i64 f, .slice A n c] 33))) := (Below.refl _ _).alloc (Nat.le_refl _) _
  cases fw
  · have hm : ((i : Int) + (n : Int) - 1) % (n : Int) = ((i + n - 1) % n : Nat) := by
      rw [show (i : Int) + (n : Int) - 1 = ((i + n - 1 : Nat) : Int) by omega, ← Int.natCast_emod]
    have HM : Hid (alongM n i false = 2 * ((i + n - 1) % n) + 1) := rfl
    have hlt : (i + n - 1) % n < n := Nat.mod_lt _ (by omega)
    generalize (i + n - 1) % n = m at hm HM hlt
    go_enter Tryd.func102, Tryd.ntmps102
    go_wp2_with fail
    go_ret
    exact ⟨ret_i64 (by rw [HM.out]; omega), HB0.out⟩
  · have HM : Hid (alongM n i true = 2 * i) := rfl
    go_enter Tryd.func102, Tryd.ntmps102
    go_wp2_with fail
    go_ret
    exact ⟨ret_i64 (by rw [HM.out]; omega), HB0.out⟩

set_option maxHeartbeats 2000000 in
theorem left_calls_ref (a b : Lt) (w : World) :
    Calls Tryd.prog 87 #[a.val, b.val] w fun e w' => e = .returned (.bool (decide (a.gate < b.gate ∨ a.gate = b.gate ∧ a.rank < b.rank))) ∧ Below w.heap.size w w' := by
  have HD := Lib.hid (rfl : decide (a.gate < b.gate ∨ a.gate = b.gate ∧ a.rank < b.rank) = decide (a.gate < b.gate ∨ a.gate = b.gate ∧ a.rank < b.rank))
  have HB : Hid (Below w.heap.size w ((w.alloc (.cells #[.int .i64 a.kind, .int .i64 a.gate, .int .i64 a.rank, .int .i64 a.id, .int .i64 a.sign, .bool a.over] 50)).alloc (.cells #[.int .i64 b.kind, .int .i64 b.gate, .int .i64 b.rank, .int .i64 b.id, .int .i64 b.sign, .bool b.over] 50))) :=
    ((Below.refl _ _).alloc (Nat.le_refl _) _).alloc (by simp) _
  unfold Lt.val
  obtain ⟨r, hr⟩ : ∃ r, decide (a.gate < b.gate ∨ a.gate = b.gate ∧ a.rank < b.rank) = r := ⟨_, rfl⟩
  rw [hr]
  rcases Int.lt_trichotomy a.gate b.gate with c | c | c
  · have hc : decide (a.gate < b.gate) = true := by rw [decide_eq_true_iff]; exact c
    have HR : Hid (r = true) := by unfold Hid; rw [← hr, decide_eq_true_iff]; exact .inl c
    clear hr c HD
    go_enter Tryd.func87, Tryd.ntmps87
    go_wp2_with fail
    try go_quiet (fail)
    try go_wp2_with fail
    go_ret
    exact ⟨ret_bool2 (by rw [HR.out]), by first | exact HB.out | exact below_drewN HB.out _⟩
  · have hc : decide (a.gate < b.gate) = false := by rw [decide_eq_false_iff_not]; omega
    have hc2 : (a.gate == b.gate) = true := by rw [beq_iff_eq]; exact c
    have HR : Hid (r = decide (a.rank < b.rank)) := by unfold Hid; rw [← hr, decide_eq_decide]; omega
    clear hr c HD
    go_enter Tryd.func87, Tryd.ntmps87
    go_wp2_with fail
    try go_quiet (fail)
    try go_wp2_with fail
    go_ret
    exact ⟨ret_bool2 (by rw [HR.out]), by first | exact HB.out | exact below_drewN HB.out _⟩
  · have hc : decide (a.gate < b.gate) = false := by rw [decide_eq_false_iff_not]; omega
    have hc2 : (a.gate == b.gate) = false := by rw [beq_eq_false_iff_ne]; omega
    have HR : Hid (r = false) := by unfold Hid; rw [← hr, decide_eq_false_iff_not]; omega
    clear hr c HD
    go_enter Tryd.func87, Tryd.ntmps87
    go_wp2_with fail
    try go_quiet (fail)
    try go_wp2_with fail
    go_ret
    exact ⟨ret_bool2 (by rw [HR.out]), by first | exact HB.out | exact below_drewN HB.out _⟩

/-- What Other answers: another visit, or the same one where there is none. -/
def OthPost (ls : List Lt) (i : Nat) (x : Int) (w : World) (e : Ending) (w' : World) : Prop :=
  ∃ r : Nat, e = .returned (.int .i64 (r : Int)) ∧ ((r ≠ i ∧ ∃ a, ls[r]? = some a ∧ a.kind = 2 ∧ a.id = x) ∨ (r = i ∧ ∀ (k : Nat) (a : Lt), k ≠ i → ls[k]? = some a → ¬ (a.kind = 2 ∧ a.id = x))) ∧ Below w.heap.size w w'
def OthRel (ls : List Lt) (i : Nat) (x : Int) (n : Nat) (w : World) (iv : Value) (wr : World) : Prop := ∃ j : Nat, j ≤ n ∧ iv = .int .i64 j ∧ (∀ (k : Nat) (a : Lt), k < j → k ≠ i → ls[k]? = some a → ¬ (a.kind = 2 ∧ a.id = x)) ∧ Below w.heap.size w wr

set_option maxHeartbeats 4000000 in
theorem other_calls (f : Int) (A : Option Addr) (n cap : Nat) (ls : List Lt) (i : Nat) (l : Lt) (w : World) (h : LS w A n ls) (hn : n ≤ 1000000) (hl : ls[i]? = some l) :
    Calls Tryd.prog 103 #[.agg #[.int .i64 f, .slice A n cap], .int .i64 (i : Int)] w (OthPost ls i l.id w) := by
  have HL := Lib.hid h.1
  have HLI := Lib.hid hl
  have hin : i < n := by have := h.1; have := lt_len hl; omega
  have hini : (i : Int) < n := by omega
  go_enter Tryd.func103, Tryd.ntmps103
  go_wp2_with fail
  have HX := Lib.hid (Box.made w f A n cap 33)
  have HB0 : Hid (Below w.heap.size w (w.alloc (.cells #[.int .i64 f, .slice A n cap] 33))) := (Below.refl _ _).alloc (Nat.le_refl _) _
  obtain ⟨W0, hW0⟩ : ∃ W0, W0 = w.alloc (.cells #[.int .i64 f, .slice A n cap] 33) := ⟨_, rfl⟩
  obtain ⟨P, hP⟩ : ∃ P, P = w.heap.size := ⟨_, rfl⟩
  rw [← hW0] at HX HB0 ⊢
  rw [← hP] at HX ⊢
  clear hW0 hP hl
  go_loopw [5] (fun iv wr => OthRel ls i l.id n W0 iv wr) (fun iv _ => n - (intOf iv).toNat)
  case atStart => exact ⟨0, Nat.zero_le _, rfl, fun k a hk => by omega, Below.refl _ _⟩
  case round =>
    obtain ⟨j, hj, rfl, hall, hb⟩ := hrel
    have HB := Lib.hid hb
    have HALL := Lib.hid hall
    clear hall
    obtain ⟨hP, x0, x1⟩ := HX.out.below hb
    by_cases hlt : j < n
    · obtain ⟨b, off, o, rfl, hbl, ho, c0, c1, c2, c3, c4, c5⟩ := ((h.below HB0.out).below hb).at_ (k := j) hlt
      obtain ⟨b', off', l', hA', hbl', hl', d0, d1, d2, d3, d4, d5⟩ := ((h.below HB0.out).below hb).at_ (k := i) hin
      injection hA' with hA'
      injection hA' with e1 e2
      subst e1
      subst e2
      rw [HLI.out] at hl'
      injection hl' with hl'
      subst hl'
      have hj1 : (j : Int) < n := by omega
      have HO := Lib.hid ho
      have HBW : Hid (∀ m, Below W0.heap.size W0 (wr.drewN m)) := fun m => below_drewN HB.out m
      have HBF : Hid (∀ m, Below w.heap.size w (wr.drewN m)) := fun m => HB0.out.trans ((HBW.out m).mono HB0.out.size)
      clear ho hb
      have hstep : Hid (¬ (j ≠ i ∧ o.kind = 2 ∧ o.id = l.id) → ∀ m, OthRel ls i l.id n W0 (.int .i64 ((j : Int) + 1)) (wr.drewN m)) := by
        intro hno m
        exact ⟨j + 1, by omega, by rw [Int.natCast_add]; rfl, fun k a hk hki ha => by
          by_cases e : k = j
          · subst e; rw [HO.out] at ha; injection ha with ha; subst ha; exact fun c => hno ⟨hki, c⟩
          · exact HALL.out k a (by omega) hki ha, HBW.out m⟩
      by_cases hji : j = i
      · have g1 : ((j : Int) != (i : Int)) = false := by rw [bne_eq_false_iff_eq]; omega
        have H := Lib.hid (hstep.out (fun c => c.1 hji))
        clear hstep hji
        go_wp2_with fail
        go_quiet (fail)
        go_wp2_with fail
        go_roundw
        case rel => exact H.out _
        case measure => simp [intOf]; omega
      · have g1 : ((j : Int) != (i : Int)) = true := by rw [bne_iff_ne]; omega
        by_cases hk : o.kind = 2
        · have g2 : (o.kind == 2) = true := by rw [beq_iff_eq]; exact hk
          by_cases hi : o.id = l.id
          · have g3 : (o.id == l.id) = true := by rw [beq_iff_eq]; exact hi
            have HF : Hid (∀ m, OthPost ls i l.id w (.returned (.int .i64 (j : Int))) (wr.drewN m)) := fun m => ⟨j, rfl, .inl ⟨hji, o, HO.out, hk, hi⟩, HBF.out m⟩
            clear hstep hji hk hi
            go_wp2_with fail
            go_quiet (fail)
            go_wp2_with fail
            go_ret
            exact HF.out _
          · have g3 : (o.id == l.id) = false := by rw [beq_eq_false_iff_ne]; exact hi
            have H := Lib.hid (hstep.out (fun c => hi c.2.2))
            clear hstep hji hk hi
            go_wp2_with fail
            go_quiet (fail)
            go_wp2_with fail
            go_roundw
            case rel => exact H.out _
            case measure => simp [intOf]; omega
        · have g2 : (o.kind == 2) = false := by rw [beq_eq_false_iff_ne]; exact hk
          have H := Lib.hid (hstep.out (fun c => hk c.2.1))
          clear hstep hji hk
          go_wp2_with fail
          go_quiet (fail)
          go_wp2_with fail
          go_roundw
          case rel => exact H.out _
          case measure => simp [intOf]; omega
    · obtain rfl : j = n := by omega
      go_wp2_with fail
      go_ret
      exact ⟨i, rfl, .inr ⟨rfl, fun k a hki ha => HALL.out k a (by have := lt_len ha; have := HL.out; omega) hki ha⟩, HB0.out.trans (HB.out.mono HB0.out.size)⟩

end Go.Proofs.YtbbpockkafbfmaaDoor

/-
  The walk of the reference's Turn.
-/
namespace Go.Proofs.YtbbpockkafbfmaaDoor
open Go.RowKit

/-- The code's variable, and what else stays. -/
def BoxS (P : Nat) (f : Int) (v : Value) (w w' : World) : Prop := w'.cell? ⟨P, 0, none⟩ = some (.int .i64 f) ∧ w'.cell? ⟨P, 1, none⟩ = some v ∧ Below w.heap.size w w'
theorem BoxS.of {P : Nat} {f : Int} {v : Value} {w w' : World} (h : Box w P f v) (hb : Below w.heap.size w w') : BoxS P f v w w' := ⟨(hb.cell (p := ⟨P, 0, none⟩) h.1).trans h.2.1, (hb.cell (p := ⟨P, 1, none⟩) h.1).trans h.2.2, hb⟩
theorem BoxS.last {P : Nat} {f : Int} {v : Value} {w w' : World} (h : BoxS P f v w w') : Below w.heap.size w w' := h.2.2

set_option maxHeartbeats 4000000 in
set_option maxRecDepth 100000 in
theorem turn_right (f : Int) (A Ax : Option Addr) (n c m cx d j k v : Nat) (ls : List Lt) (ax : List Int) (w : World) (hL : LS w A n ls) (hX : SL w Ax m ax) (hn : n ≤ 1000000) (hm : m ≤ 1000000) (hd : 2 * n ≤ d) (hd2 : d ≤ 10000000) (he : d % 2 = 0)
    (hj : (d - 2 * n) / 2 = j) (hk : (j + 1) % m = k) (hkm : k < m) (hv : ax[k]? = some (v : Int)) (hvn : v < n) :
    Calls Tryd.prog 71 #[.agg #[.int .i64 f, .slice A n c], .slice Ax m cx, .int .i64 (d : Int)] w fun e w' => e = .returned (.int .i64 (alongM n v (!downB ls v))) ∧ Below w.heap.size w w' := by
  obtain ⟨b, off, x, rfl, hbl, hx, c0⟩ := hX.at_ hkm
  rw [hv] at hx
  injection hx with hx
  subst hx
  have t1 : decide (2 * (n : Int) ≤ (d : Int)) = true := by rw [decide_eq_true_iff]; omega
  have t2 : (0 : Int) ≤ (d : Int) - 2 * (n : Int) := by omega
  have t3 : ((d : Int) - 2 * (n : Int)) / 2 = (j : Int) := by omega
  have t4 : (d : Int) % 2 = 0 := by omega
  have t5 : ((j : Int) + 1) % (m : Int) = (k : Int) := by rw [← hk, ← Int.natCast_one, ← Int.natCast_add, ← Int.natCast_emod]
  have t6 : (k : Int) < (m : Int) := by omega
  have t7 : j ≤ 10000000 := by omega
  have t8 : (0 : Int) < (m : Int) := by omega
  have HX := Lib.hid (Box.made w f A n c 33)
  have HB0 : Hid (Below w.heap.size w (w.alloc (.cells #[.int .i64 f, .slice A n c] 33))) := (Below.refl _ _).alloc (Nat.le_refl _) _
  have HDN : Hid (∀ W, Below w.heap.size w W → Calls Tryd.prog 51 #[.agg #[.int .i64 f, .slice A n c], .int .i64 (v : Int)] W fun e w' => e = .returned (.bool (downB ls v)) ∧ Below W.heap.size W w') :=
    fun W hW => down_calls f A n c ls v W (hL.below hW) hn (by omega)
  have HAL : Hid (∀ W, Calls Tryd.prog 102 #[.agg #[.int .i64 f, .slice A n c], .int .i64 (v : Int), .bool (!downB ls v)] W fun e w' => e = .returned (.int .i64 (alongM n v (!downB ls v))) ∧ Below W.heap.size W w') :=
    fun W => along_calls f A n c v (!downB ls v) W hn hvn
  obtain ⟨r, hr⟩ : ∃ r, alongM n v (!downB ls v) = r := ⟨_, rfl⟩
  rw [hr] at HAL ⊢
  obtain ⟨dn, hdn⟩ : ∃ dn, downB ls v = dn := ⟨_, rfl⟩
  rw [hdn] at HAL HDN
  have c0' : ∀ o, (w.alloc o).cell? ⟨b, off + k, none⟩ = some (.int .i64 (v : Int)) := fun o => (((Below.refl w.heap.size w).alloc (Nat.le_refl _) o).cell (p := ⟨b, off + k, none⟩) hbl).trans c0
  clear hr hdn hL hX hv hj hk hd he c0
  go_enter Tryd.func71, Tryd.ntmps71
  go_wp2_with fail
  obtain ⟨W0, hW0⟩ : ∃ W0, W0 = w.alloc (.cells #[.int .i64 f, .slice A n c] 33) := ⟨_, rfl⟩
  obtain ⟨P, hP⟩ : ∃ P, P = w.heap.size := ⟨_, rfl⟩
  rw [← hW0] at HX HB0 ⊢
  rw [← hP] at HX ⊢
  clear hW0 hP c0'
  go_region_held3 (fun w' => w'.cell? ⟨P, 0, none⟩ = some (.int .i64 f) ∧ w'.cell? ⟨P, 1, none⟩ = some (.slice A n c) ∧ Below W0.heap.size W0 w')
    (first
      | exact BoxS.of HX.out (Below.refl _ _).drew
      | exact BoxS.of HX.out ((BoxS.last (P := P) (f := f) (v := .slice A n c) (by assumption)).trans (hbw.mono (BoxS.last (P := P) (f := f) (v := .slice A n c) (by assumption)).size)))
    (first
      | (go_at_call 51; refine (HDN.out _ ?hbx).mono ?_; (case hbx => exact HB0.out.trans ((BoxS.last (P := P) (f := f) (v := .slice A n c) (by assumption)).mono HB0.out.size)); rintro e w2 ⟨rfl, hbw⟩)
      | (go_at_call 102; refine (HAL.out _).mono ?_; rintro e w3 ⟨rfl, hbw⟩))
  have hS : BoxS P f (.slice A n c) W0 w3 := by assumption
  have HSS := Lib.hid hS.last
  clear hS
  go_wp2_with fail
  go_ret
  exact ⟨rfl, HB0.out.trans (HSS.out.mono HB0.out.size)⟩

set_option maxHeartbeats 4000000 in
set_option maxRecDepth 100000 in
theorem turn_back (f : Int) (A Ax : Option Addr) (n c m cx d j v : Nat) (ls : List Lt) (ax : List Int) (w : World) (hL : LS w A n ls) (hX : SL w Ax m ax) (hn : n ≤ 1000000) (hm : m ≤ 1000000) (hd : 2 * n ≤ d) (hd2 : d ≤ 10000000) (he : d % 2 = 1)
    (hj : (d - 2 * n) / 2 = j) (hkm : j < m) (hv : ax[j]? = some (v : Int)) (hvn : v < n) :
    Calls Tryd.prog 71 #[.agg #[.int .i64 f, .slice A n c], .slice Ax m cx, .int .i64 (d : Int)] w fun e w' => e = .returned (.int .i64 (alongM n v (downB ls v))) ∧ Below w.heap.size w w' := by
  obtain ⟨b, off, x, rfl, hbl, hx, c0⟩ := hX.at_ hkm
  rw [hv] at hx
  injection hx with hx
  subst hx
  have t1 : decide (2 * (n : Int) ≤ (d : Int)) = true := by rw [decide_eq_true_iff]; omega
  have t2 : (0 : Int) ≤ (d : Int) - 2 * (n : Int) := by omega
  have t3 : ((d : Int) - 2 * (n : Int)) / 2 = (j : Int) := by omega
  have t4 : (d : Int) % 2 = 1 := by omega
  have t6 : (j : Int) < (m : Int) := by omega
  have t7 : j ≤ 10000000 := by omega
  have t8 : (0 : Int) < (m : Int) := by omega
  have HX := Lib.hid (Box.made w f A n c 33)
  have HB0 : Hid (Below w.heap.size w (w.alloc (.cells #[.int .i64 f, .slice A n c] 33))) := (Below.refl _ _).alloc (Nat.le_refl _) _
  have HDN : Hid (∀ W, Below w.heap.size w W → Calls Tryd.prog 51 #[.agg #[.int .i64 f, .slice A n c], .int .i64 (v : Int)] W fun e w' => e = .returned (.bool (downB ls v)) ∧ Below W.heap.size W w') :=
    fun W hW => down_calls f A n c ls v W (hL.below hW) hn (by omega)
  have HAL : Hid (∀ W, Calls Tryd.prog 102 #[.agg #[.int .i64 f, .slice A n c], .int .i64 (v : Int), .bool (downB ls v)] W fun e w' => e = .returned (.int .i64 (alongM n v (downB ls v))) ∧ Below W.heap.size W w') :=
    fun W => along_calls f A n c v (downB ls v) W hn hvn
  obtain ⟨r, hr⟩ : ∃ r, alongM n v (downB ls v) = r := ⟨_, rfl⟩
  rw [hr] at HAL ⊢
  obtain ⟨dn, hdn⟩ : ∃ dn, downB ls v = dn := ⟨_, rfl⟩
  rw [hdn] at HAL HDN
  have c0' : ∀ o, (w.alloc o).cell? ⟨b, off + j, none⟩ = some (.int .i64 (v : Int)) := fun o => (((Below.refl w.heap.size w).alloc (Nat.le_refl _) o).cell (p := ⟨b, off + j, none⟩) hbl).trans c0
  clear hr hdn hL hX hv hj hd he c0
  go_enter Tryd.func71, Tryd.ntmps71
  go_wp2_with fail
  obtain ⟨W0, hW0⟩ : ∃ W0, W0 = w.alloc (.cells #[.int .i64 f, .slice A n c] 33) := ⟨_, rfl⟩
  obtain ⟨P, hP⟩ : ∃ P, P = w.heap.size := ⟨_, rfl⟩
  rw [← hW0] at HX HB0 ⊢
  rw [← hP] at HX ⊢
  clear hW0 hP c0'
  go_region_held3 (fun w' => w'.cell? ⟨P, 0, none⟩ = some (.int .i64 f) ∧ w'.cell? ⟨P, 1, none⟩ = some (.slice A n c) ∧ Below W0.heap.size W0 w')
    (first
      | exact BoxS.of HX.out (Below.refl _ _).drew
      | exact BoxS.of HX.out ((BoxS.last (P := P) (f := f) (v := .slice A n c) (by assumption)).trans (hbw.mono (BoxS.last (P := P) (f := f) (v := .slice A n c) (by assumption)).size)))
    (first
      | (go_at_call 51; refine (HDN.out _ ?hbx).mono ?_; (case hbx => exact HB0.out.trans ((BoxS.last (P := P) (f := f) (v := .slice A n c) (by assumption)).mono HB0.out.size)); rintro e w2 ⟨rfl, hbw⟩)
      | (go_at_call 102; refine (HAL.out _).mono ?_; rintro e w3 ⟨rfl, hbw⟩))
  have hS : BoxS P f (.slice A n c) W0 w3 := by assumption
  have HSS := Lib.hid hS.last
  clear hS
  go_wp2_with fail
  go_ret
  exact ⟨rfl, HB0.out.trans (HSS.out.mono HB0.out.size)⟩

set_option maxHeartbeats 8000000 in
set_option maxRecDepth 100000 in
theorem turn_cross_ref (f : Int) (A Ax : Option Addr) (n c m cx d v o : Nat) (ls : List Lt) (l : Lt) (w : World) (hL : LS w A n ls) (hn : n ≤ 1000000) (hn0 : 0 < n) (hd : d < 2 * n) (hv : endM n d = v) (hl : ls[v]? = some l) (hk : l.kind = 2)
    (hO : ∀ W, Below w.heap.size w W → Calls Tryd.prog 103 #[.agg #[.int .i64 f, .slice A n c], .int .i64 (v : Int)] W fun e w' => e = .returned (.int .i64 (o : Int)) ∧ Below W.heap.size W w') (hon : o < n) :
    Calls Tryd.prog 71 #[.agg #[.int .i64 f, .slice A n c], .slice Ax m cx, .int .i64 (d : Int)] w fun e w' => e = .returned (.int .i64 (alongM n o (decide (d % 2 = 0) == (l.over == decide (l.sign = 1))))) ∧ Below w.heap.size w w' := by
  have hvn : v < n := by have := lt_len hl; have := hL.1; omega
  obtain ⟨b, off, l', rfl, hbl, hl', c0, c1, c2, c3, c4, c5⟩ := hL.at_ hvn
  rw [hl] at hl'
  injection hl' with hl'
  subst hl'
  have t1 : decide (2 * (n : Int) ≤ (d : Int)) = false := by rw [decide_eq_false_iff_not]; omega
  have hvi : (v : Int) < (n : Int) := by omega
  have hn0i : (0 : Int) < (n : Int) := by omega
  have hke : (l.kind == 2) = true := by rw [beq_iff_eq]; exact hk
  have HX := Lib.hid (Box.made w f (some ⟨b, off, none⟩) n c 33)
  have HB0 : Hid (Below w.heap.size w (w.alloc (.cells #[.int .i64 f, .slice (some ⟨b, off, none⟩) n c] 33))) := (Below.refl _ _).alloc (Nat.le_refl _) _
  have HO := Lib.hid hO
  have HAL : Hid (∀ W fw, Calls Tryd.prog 102 #[.agg #[.int .i64 f, .slice (some ⟨b, off, none⟩) n c], .int .i64 (o : Int), .bool fw] W fun e w' => e = .returned (.int .i64 (alongM n o fw)) ∧ Below W.heap.size W w') :=
    fun W fw => along_calls f _ n c o fw W hn hon
  have cs : ∀ q : Nat, ∀ ob, (w.alloc ob).cell? ⟨b, off + v * 6 + q, none⟩ = w.cell? ⟨b, off + v * 6 + q, none⟩ := fun q ob => ((Below.refl w.heap.size w).alloc (Nat.le_refl _) ob).cell (p := ⟨b, off + v * 6 + q, none⟩) hbl
  have cs0 : ∀ ob, (w.alloc ob).cell? ⟨b, off + v * 6, none⟩ = w.cell? ⟨b, off + v * 6, none⟩ := fun ob => ((Below.refl w.heap.size w).alloc (Nat.le_refl _) ob).cell (p := ⟨b, off + v * 6, none⟩) hbl
  have e0 := fun ob => (cs0 ob).trans c0
  have e1 := fun ob => (cs 1 ob).trans c1
  have e2 := fun ob => (cs 2 ob).trans c2
  have e3 := fun ob => (cs 3 ob).trans c3
  have e4 := fun ob => (cs 4 ob).trans c4
  have e5 := fun ob => (cs 5 ob).trans c5
  clear cs cs0 c0 c1 c2 c3 c4 c5 hO hL hl hk
  have HF : Hid (∀ sb : Bool, sb = decide (l.sign = 1) → ∀ fw, fw = decide (d % 2 = 0) → alongM n o (decide (d % 2 = 0) == (l.over == decide (l.sign = 1))) = alongM n o (fw == (l.over == sb))) := fun sb h1 fw h2 => by rw [h1, h2]
  obtain ⟨r, hr⟩ : ∃ r, alongM n o (decide (d % 2 = 0) == (l.over == decide (l.sign = 1))) = r := ⟨_, rfl⟩
  rw [hr] at HF ⊢
  have HFS : Hid ((l.sign == 1) = decide (l.sign = 1)) := by unfold Hid; rw [Bool.eq_iff_iff, beq_iff_eq, decide_eq_true_eq]
  clear hr
  obtain ⟨g, hg⟩ : ∃ g, d / 2 = g := ⟨_, rfl⟩
  have t3 : (d : Int) / 2 = (g : Int) := by omega
  have hpar : d % 2 = 0 ∨ d % 2 = 1 := by omega
  rcases hpar with hp | hp
  · have t4 : (d : Int) % 2 = 0 := by omega
    have hm : ((g : Int) + 1) % (n : Int) = (v : Int) := by
      rw [← hv]
      unfold endM
      rw [if_neg (by omega), hg, ← Int.natCast_one, ← Int.natCast_add, ← Int.natCast_emod]
    have HP : Hid (true = decide (d % 2 = 0)) := by unfold Hid; simp [hp]
    clear hp hg hv
    go_enter Tryd.func71, Tryd.ntmps71
    go_wp2_with fail
    have HXB := Lib.hid ((HX.out).below ((Below.refl _ _).alloc (Nat.le_refl _) (.cells #[.int .i64 l.kind, .int .i64 l.gate, .int .i64 l.rank, .int .i64 l.id, .int .i64 l.sign, .bool l.over] 50)))
    have HB1 : Hid (Below w.heap.size w ((w.alloc (.cells #[.int .i64 f, .slice (some ⟨b, off, none⟩) n c] 33)).alloc (.cells #[.int .i64 l.kind, .int .i64 l.gate, .int .i64 l.rank, .int .i64 l.id, .int .i64 l.sign, .bool l.over] 50))) := HB0.out.alloc HB0.out.size _
    obtain ⟨W1, hW1⟩ : ∃ W1, W1 = (w.alloc (.cells #[.int .i64 f, .slice (some ⟨b, off, none⟩) n c] 33)).alloc (.cells #[.int .i64 l.kind, .int .i64 l.gate, .int .i64 l.rank, .int .i64 l.id, .int .i64 l.sign, .bool l.over] 50) := ⟨_, rfl⟩
    rw [← hW1] at HXB HB1 ⊢
    obtain ⟨P, hP⟩ : ∃ P, P = w.heap.size := ⟨_, rfl⟩
    rw [← hP] at HXB ⊢
    try rw [hm]
    clear hW1 hP e0 e1 e2 e3 e4 e5
    go_region_held3 (fun w' => w'.cell? ⟨P, 0, none⟩ = some (.int .i64 f) ∧ w'.cell? ⟨P, 1, none⟩ = some (.slice (some ⟨b, off, none⟩) n c) ∧ Below W1.heap.size W1 w')
      (first
        | exact BoxS.of HXB.out (Below.refl _ _).drew
        | exact BoxS.of HXB.out ((BoxS.last (P := P) (f := f) (v := .slice (some ⟨b, off, none⟩) n c) (by assumption)).trans (hbw.mono (BoxS.last (P := P) (f := f) (v := .slice (some ⟨b, off, none⟩) n c) (by assumption)).size)))
      (first
        | (go_at_call 103; refine (HO.out _ ?hbx).mono ?_; (case hbx => exact HB1.out.trans ((BoxS.last (P := P) (f := f) (v := .slice (some ⟨b, off, none⟩) n c) (by assumption)).mono HB1.out.size)); rintro e w2 ⟨rfl, hbw⟩)
        | (go_at_call 102; refine (HAL.out _ _).mono ?_; rintro e w3 ⟨rfl, hbw⟩))
    have hS : BoxS P f (.slice (some ⟨b, off, none⟩) n c) W1 w3 := by assumption
    have HSS := Lib.hid hS.last
    clear hS
    go_wp2_with fail
    go_ret
    exact ⟨ret_i64 (by rw [HF.out (l.sign == 1) HFS.out true HP.out]; first | rfl | simp), HB1.out.trans (HSS.out.mono HB1.out.size)⟩
  · have t4 : (d : Int) % 2 = 1 := by omega
    have hm : g = v := by
      rw [← hv, ← hg]
      unfold endM
      rw [if_pos hp]
    subst hm
    have HP : Hid (false = decide (d % 2 = 0)) := by unfold Hid; simp [hp]
    clear hp hg hv
    go_enter Tryd.func71, Tryd.ntmps71
    go_wp2_with fail
    have HXB := Lib.hid ((HX.out).below ((Below.refl _ _).alloc (Nat.le_refl _) (.cells #[.int .i64 l.kind, .int .i64 l.gate, .int .i64 l.rank, .int .i64 l.id, .int .i64 l.sign, .bool l.over] 50)))
    have HB1 : Hid (Below w.heap.size w ((w.alloc (.cells #[.int .i64 f, .slice (some ⟨b, off, none⟩) n c] 33)).alloc (.cells #[.int .i64 l.kind, .int .i64 l.gate, .int .i64 l.rank, .int .i64 l.id, .int .i64 l.sign, .bool l.over] 50))) := HB0.out.alloc HB0.out.size _
    obtain ⟨W1, hW1⟩ : ∃ W1, W1 = (w.alloc (.cells #[.int .i64 f, .slice (some ⟨b, off, none⟩) n c] 33)).alloc (.cells #[.int .i64 l.kind, .int .i64 l.gate, .int .i64 l.rank, .int .i64 l.id, .int .i64 l.sign, .bool l.over] 50) := ⟨_, rfl⟩
    rw [← hW1] at HXB HB1 ⊢
    obtain ⟨P, hP⟩ : ∃ P, P = w.heap.size := ⟨_, rfl⟩
    rw [← hP] at HXB ⊢
    clear hW1 hP e0 e1 e2 e3 e4 e5
    go_region_held3 (fun w' => w'.cell? ⟨P, 0, none⟩ = some (.int .i64 f) ∧ w'.cell? ⟨P, 1, none⟩ = some (.slice (some ⟨b, off, none⟩) n c) ∧ Below W1.heap.size W1 w')
      (first
        | exact BoxS.of HXB.out (Below.refl _ _).drew
        | exact BoxS.of HXB.out ((BoxS.last (P := P) (f := f) (v := .slice (some ⟨b, off, none⟩) n c) (by assumption)).trans (hbw.mono (BoxS.last (P := P) (f := f) (v := .slice (some ⟨b, off, none⟩) n c) (by assumption)).size)))
      (first
        | (go_at_call 103; refine (HO.out _ ?hbx).mono ?_; (case hbx => exact HB1.out.trans ((BoxS.last (P := P) (f := f) (v := .slice (some ⟨b, off, none⟩) n c) (by assumption)).mono HB1.out.size)); rintro e w2 ⟨rfl, hbw⟩)
        | (go_at_call 102; refine (HAL.out _ _).mono ?_; rintro e w3 ⟨rfl, hbw⟩))
    have hS : BoxS P f (.slice (some ⟨b, off, none⟩) n c) W1 w3 := by assumption
    have HSS := Lib.hid hS.last
    clear hS
    go_wp2_with fail
    go_ret
    exact ⟨ret_i64 (by rw [HF.out (l.sign == 1) HFS.out false HP.out]; first | rfl | simp), HB1.out.trans (HSS.out.mono HB1.out.size)⟩

set_option maxHeartbeats 8000000 in
set_option maxRecDepth 100000 in
theorem turn_pass_ref (f : Int) (A Ax : Option Addr) (n c m cx d v s : Nat) (ls : List Lt) (l : Lt) (w : World) (hL : LS w A n ls) (hn : n ≤ 1000000) (hm0 : m ≤ 1000000) (hn0 : 0 < n) (hd : d < 2 * n) (hv : endM n d = v) (hl : ls[v]? = some l) (hk : l.kind = 1)
    (hA : ∀ W, Below w.heap.size w W → Calls Tryd.prog 104 #[.slice Ax m cx, .int .i64 (v : Int)] W fun e w' => e = .returned (.int .i64 (s : Int)) ∧ Below W.heap.size W w') (hs : s < m) :
    Calls Tryd.prog 71 #[.agg #[.int .i64 f, .slice A n c], .slice Ax m cx, .int .i64 (d : Int)] w fun e w' => e = .returned (.int .i64 ((if downB ls v = decide (d % 2 = 0) then 2 * n + 2 * s else 2 * n + 2 * ((s + m - 1) % m) + 1 : Nat) : Int)) ∧ Below w.heap.size w w' := by
  have hvn : v < n := by have := lt_len hl; have := hL.1; omega
  have HDN : Hid (∀ W, Below w.heap.size w W → Calls Tryd.prog 51 #[.agg #[.int .i64 f, .slice A n c], .int .i64 (v : Int)] W fun e w' => e = .returned (.bool (downB ls v)) ∧ Below W.heap.size W w') :=
    fun W hW => down_calls f A n c ls v W (hL.below hW) hn (by omega)
  obtain ⟨b, off, l', rfl, hbl, hl', c0, c1, c2, c3, c4, c5⟩ := hL.at_ hvn
  rw [hl] at hl'
  injection hl' with hl'
  subst hl'
  have t1 : decide (2 * (n : Int) ≤ (d : Int)) = false := by rw [decide_eq_false_iff_not]; omega
  have hvi : (v : Int) < (n : Int) := by omega
  have hn0i : (0 : Int) < (n : Int) := by omega
  have hm0i : (0 : Int) < (m : Int) := by omega
  have hke : (l.kind == 2) = false := by rw [hk]; rfl
  have HX := Lib.hid (Box.made w f (some ⟨b, off, none⟩) n c 33)
  have HB0 : Hid (Below w.heap.size w (w.alloc (.cells #[.int .i64 f, .slice (some ⟨b, off, none⟩) n c] 33))) := (Below.refl _ _).alloc (Nat.le_refl _) _
  have HA := Lib.hid hA
  have cs : ∀ q : Nat, ∀ ob, (w.alloc ob).cell? ⟨b, off + v * 6 + q, none⟩ = w.cell? ⟨b, off + v * 6 + q, none⟩ := fun q ob => ((Below.refl w.heap.size w).alloc (Nat.le_refl _) ob).cell (p := ⟨b, off + v * 6 + q, none⟩) hbl
  have cs0 : ∀ ob, (w.alloc ob).cell? ⟨b, off + v * 6, none⟩ = w.cell? ⟨b, off + v * 6, none⟩ := fun ob => ((Below.refl w.heap.size w).alloc (Nat.le_refl _) ob).cell (p := ⟨b, off + v * 6, none⟩) hbl
  have e0 := fun ob => (cs0 ob).trans c0
  have e1 := fun ob => (cs 1 ob).trans c1
  have e2 := fun ob => (cs 2 ob).trans c2
  have e3 := fun ob => (cs 3 ob).trans c3
  have e4 := fun ob => (cs 4 ob).trans c4
  have e5 := fun ob => (cs 5 ob).trans c5
  have hq : ((s : Int) + (m : Int) - 1) % (m : Int) = ((s + m - 1) % m : Nat) := by
    rw [show (s : Int) + (m : Int) - 1 = ((s + m - 1 : Nat) : Int) by omega, ← Int.natCast_emod]
  have hqm : (s + m - 1) % m < m := Nat.mod_lt _ (by omega)
  clear cs cs0 c0 c1 c2 c3 c4 c5 hA hL hl hk
  obtain ⟨q, hqq⟩ : ∃ q, (s + m - 1) % m = q := ⟨_, rfl⟩
  rw [hqq] at hq hqm ⊢
  obtain ⟨dn, hdn⟩ : ∃ dn, downB ls v = dn := ⟨_, rfl⟩
  rw [hdn] at HDN ⊢
  clear hqq hdn
  obtain ⟨g, hg⟩ : ∃ g, d / 2 = g := ⟨_, rfl⟩
  have t3 : (d : Int) / 2 = (g : Int) := by omega
  have hpar : d % 2 = 0 ∨ d % 2 = 1 := by omega
  rcases hpar with hp | hp
  · have t4 : (d : Int) % 2 = 0 := by omega
    have hm : ((g : Int) + 1) % (n : Int) = (v : Int) := by
      rw [← hv]
      unfold endM
      rw [if_neg (by omega), hg, ← Int.natCast_one, ← Int.natCast_add, ← Int.natCast_emod]
    have HP : Hid (decide (d % 2 = 0) = true) := by unfold Hid; simp [hp]
    clear hp hg hv
    rw [HP.out]
    cases dn
    · go_enter Tryd.func71, Tryd.ntmps71
      go_wp2_with fail
      have HXB := Lib.hid ((HX.out).below ((Below.refl _ _).alloc (Nat.le_refl _) (.cells #[.int .i64 l.kind, .int .i64 l.gate, .int .i64 l.rank, .int .i64 l.id, .int .i64 l.sign, .bool l.over] 50)))
      have HB1 : Hid (Below w.heap.size w ((w.alloc (.cells #[.int .i64 f, .slice (some ⟨b, off, none⟩) n c] 33)).alloc (.cells #[.int .i64 l.kind, .int .i64 l.gate, .int .i64 l.rank, .int .i64 l.id, .int .i64 l.sign, .bool l.over] 50))) := HB0.out.alloc HB0.out.size _
      obtain ⟨W1, hW1⟩ : ∃ W1, W1 = (w.alloc (.cells #[.int .i64 f, .slice (some ⟨b, off, none⟩) n c] 33)).alloc (.cells #[.int .i64 l.kind, .int .i64 l.gate, .int .i64 l.rank, .int .i64 l.id, .int .i64 l.sign, .bool l.over] 50) := ⟨_, rfl⟩
      rw [← hW1] at HXB HB1 ⊢
      obtain ⟨P, hP⟩ : ∃ P, P = w.heap.size := ⟨_, rfl⟩
      rw [← hP] at HXB ⊢
      rw [hm]
      clear hW1 hP e0 e1 e2 e3 e4 e5
      refine (HA.out _ HB1.out).mono ?_
      rintro e w2 ⟨rfl, hb2⟩
      obtain ⟨_, a0, a1⟩ := HXB.out.below hb2
      have HB2 : Hid (Below w.heap.size w w2) := HB1.out.trans (hb2.mono HB1.out.size)
      clear hb2
      go_wp2_with fail
      refine (HDN.out _ HB2.out).mono ?_
      rintro e w3 ⟨rfl, hb3⟩
      have HB3 : Hid (Below w.heap.size w w3) := HB2.out.trans (hb3.mono HB2.out.size)
      clear hb3 a0 a1
      go_wp2_with fail
      go_ret
      exact ⟨ret_i64 (by first | (simp; done) | (simp; omega)), HB3.out⟩
    · go_enter Tryd.func71, Tryd.ntmps71
      go_wp2_with fail
      have HXB := Lib.hid ((HX.out).below ((Below.refl _ _).alloc (Nat.le_refl _) (.cells #[.int .i64 l.kind, .int .i64 l.gate, .int .i64 l.rank, .int .i64 l.id, .int .i64 l.sign, .bool l.over] 50)))
      have HB1 : Hid (Below w.heap.size w ((w.alloc (.cells #[.int .i64 f, .slice (some ⟨b, off, none⟩) n c] 33)).alloc (.cells #[.int .i64 l.kind, .int .i64 l.gate, .int .i64 l.rank, .int .i64 l.id, .int .i64 l.sign, .bool l.over] 50))) := HB0.out.alloc HB0.out.size _
      obtain ⟨W1, hW1⟩ : ∃ W1, W1 = (w.alloc (.cells #[.int .i64 f, .slice (some ⟨b, off, none⟩) n c] 33)).alloc (.cells #[.int .i64 l.kind, .int .i64 l.gate, .int .i64 l.rank, .int .i64 l.id, .int .i64 l.sign, .bool l.over] 50) := ⟨_, rfl⟩
      rw [← hW1] at HXB HB1 ⊢
      obtain ⟨P, hP⟩ : ∃ P, P = w.heap.size := ⟨_, rfl⟩
      rw [← hP] at HXB ⊢
      rw [hm]
      clear hW1 hP e0 e1 e2 e3 e4 e5
      refine (HA.out _ HB1.out).mono ?_
      rintro e w2 ⟨rfl, hb2⟩
      obtain ⟨_, a0, a1⟩ := HXB.out.below hb2
      have HB2 : Hid (Below w.heap.size w w2) := HB1.out.trans (hb2.mono HB1.out.size)
      clear hb2
      go_wp2_with fail
      refine (HDN.out _ HB2.out).mono ?_
      rintro e w3 ⟨rfl, hb3⟩
      have HB3 : Hid (Below w.heap.size w w3) := HB2.out.trans (hb3.mono HB2.out.size)
      clear hb3 a0 a1
      go_wp2_with fail
      go_ret
      exact ⟨ret_i64 (by first | (simp; done) | (simp; omega)), HB3.out⟩
  · have t4 : (d : Int) % 2 = 1 := by omega
    have hm : g = v := by
      rw [← hv, ← hg]
      unfold endM
      rw [if_pos hp]
    subst hm
    have HP : Hid (decide (d % 2 = 0) = false) := by unfold Hid; simp [hp]
    clear hp hg hv
    rw [HP.out]
    cases dn
    · go_enter Tryd.func71, Tryd.ntmps71
      go_wp2_with fail
      have HXB := Lib.hid ((HX.out).below ((Below.refl _ _).alloc (Nat.le_refl _) (.cells #[.int .i64 l.kind, .int .i64 l.gate, .int .i64 l.rank, .int .i64 l.id, .int .i64 l.sign, .bool l.over] 50)))
      have HB1 : Hid (Below w.heap.size w ((w.alloc (.cells #[.int .i64 f, .slice (some ⟨b, off, none⟩) n c] 33)).alloc (.cells #[.int .i64 l.kind, .int .i64 l.gate, .int .i64 l.rank, .int .i64 l.id, .int .i64 l.sign, .bool l.over] 50))) := HB0.out.alloc HB0.out.size _
      obtain ⟨W1, hW1⟩ : ∃ W1, W1 = (w.alloc (.cells #[.int .i64 f, .slice (some ⟨b, off, none⟩) n c] 33)).alloc (.cells #[.int .i64 l.kind, .int .i64 l.gate, .int .i64 l.rank, .int .i64 l.id, .int .i64 l.sign, .bool l.over] 50) := ⟨_, rfl⟩
      rw [← hW1] at HXB HB1 ⊢
      obtain ⟨P, hP⟩ : ∃ P, P = w.heap.size := ⟨_, rfl⟩
      rw [← hP] at HXB ⊢
      clear hW1 hP e0 e1 e2 e3 e4 e5
      refine (HA.out _ HB1.out).mono ?_
      rintro e w2 ⟨rfl, hb2⟩
      obtain ⟨_, a0, a1⟩ := HXB.out.below hb2
      have HB2 : Hid (Below w.heap.size w w2) := HB1.out.trans (hb2.mono HB1.out.size)
      clear hb2
      go_wp2_with fail
      refine (HDN.out _ HB2.out).mono ?_
      rintro e w3 ⟨rfl, hb3⟩
      have HB3 : Hid (Below w.heap.size w w3) := HB2.out.trans (hb3.mono HB2.out.size)
      clear hb3 a0 a1
      go_wp2_with fail
      go_ret
      exact ⟨ret_i64 (by first | (simp; done) | (simp; omega)), HB3.out⟩
    · go_enter Tryd.func71, Tryd.ntmps71
      go_wp2_with fail
      have HXB := Lib.hid ((HX.out).below ((Below.refl _ _).alloc (Nat.le_refl _) (.cells #[.int .i64 l.kind, .int .i64 l.gate, .int .i64 l.rank, .int .i64 l.id, .int .i64 l.sign, .bool l.over] 50)))
      have HB1 : Hid (Below w.heap.size w ((w.alloc (.cells #[.int .i64 f, .slice (some ⟨b, off, none⟩) n c] 33)).alloc (.cells #[.int .i64 l.kind, .int .i64 l.gate, .int .i64 l.rank, .int .i64 l.id, .int .i64 l.sign, .bool l.over] 50))) := HB0.out.alloc HB0.out.size _
      obtain ⟨W1, hW1⟩ : ∃ W1, W1 = (w.alloc (.cells #[.int .i64 f, .slice (some ⟨b, off, none⟩) n c] 33)).alloc (.cells #[.int .i64 l.kind, .int .i64 l.gate, .int .i64 l.rank, .int .i64 l.id, .int .i64 l.sign, .bool l.over] 50) := ⟨_, rfl⟩
      rw [← hW1] at HXB HB1 ⊢
      obtain ⟨P, hP⟩ : ∃ P, P = w.heap.size := ⟨_, rfl⟩
      rw [← hP] at HXB ⊢
      clear hW1 hP e0 e1 e2 e3 e4 e5
      refine (HA.out _ HB1.out).mono ?_
      rintro e w2 ⟨rfl, hb2⟩
      obtain ⟨_, a0, a1⟩ := HXB.out.below hb2
      have HB2 : Hid (Below w.heap.size w w2) := HB1.out.trans (hb2.mono HB1.out.size)
      clear hb2
      go_wp2_with fail
      refine (HDN.out _ HB2.out).mono ?_
      rintro e w3 ⟨rfl, hb3⟩
      have HB3 : Hid (Below w.heap.size w w3) := HB2.out.trans (hb3.mono HB2.out.size)
      clear hb3 a0 a1
      go_wp2_with fail
      go_ret
      exact ⟨ret_i64 (by first | (simp; done) | (simp; omega)), HB3.out⟩

theorem ax_at {D : DM} (g : D.good) {q : Nat} (hq : q < D.m) : (D.ax.map Int.ofNat)[q]? = some ((D.ax.getD q 0 : Nat) : Int) := map_ofNat_at (by rw [g.ok.ax]; exact hq)
/-- The reference's Turn on a valid code. -/
theorem turn_calls {D : DM} (g : D.good) (f : Int) (A Ax : Option Addr) (c cx d : Nat) (w : World) (hL : LS w A D.n D.ls) (hX : SL w Ax D.m (D.ax.map Int.ofNat)) (hd : d < 2 * D.n + 2 * D.m) :
    Calls Tryd.prog 71 #[.agg #[.int .i64 f, .slice A D.n c], .slice Ax D.m cx, .int .i64 (d : Int)] w fun e w' => e = .returned (.int .i64 (D.turn d)) ∧ Below w.heap.size w w' := by
  have hn := g.ok.n1
  have hm := g.ok.m1
  have hn0 := g.ok.n0
  by_cases h1 : 2 * D.n ≤ d
  · have hm0 : 0 < D.m := by omega
    by_cases h2 : d % 2 = 0
    · have hk : ((d - 2 * D.n) / 2 + 1) % D.m < D.m := Nat.mod_lt _ hm0
      obtain ⟨l, hl, _⟩ := g.axp _ hk
      have := turn_right f A Ax D.n c D.m cx d _ _ _ D.ls _ w hL hX (by omega) hm h1 (by omega) h2 rfl rfl hk (ax_at g hk) (g.lt hl)
      unfold DM.turn
      rw [if_pos h1, if_pos h2]
      exact this
    · have hk : (d - 2 * D.n) / 2 < D.m := by omega
      obtain ⟨l, hl, _⟩ := g.axp _ hk
      have := turn_back f A Ax D.n c D.m cx d _ _ D.ls _ w hL hX (by omega) hm h1 (by omega) (by omega) rfl hk (ax_at g hk) (g.lt hl)
      unfold DM.turn
      rw [if_pos h1, if_neg h2]
      exact this
  · obtain ⟨he, l, hl, hk⟩ := DM.at_end g (d := d) (by omega)
    rcases hk with hk | hk
    · obtain ⟨hs, hax⟩ := g.spa _ _ hl hk
      have := turn_pass_ref f A Ax D.n c D.m cx d _ (D.sp.getD (endM D.n d) 0) D.ls l w hL (by omega) hm hn0 (by omega) rfl hl hk (fun W hW => by
        refine (at_calls Ax D.m cx _ ((endM D.n d : Nat) : Int) W (hX.below hW) hm).mono ?_
        rintro e w' ⟨r, rfl, hr, hb⟩
        rcases hr with ⟨k, rfl, hk2⟩ | ⟨_, hno⟩
        · have hkm : k < D.m := by
            rcases Nat.lt_or_ge k D.m with q | q
            · exact q
            · rw [List.getElem?_eq_none (by rw [List.length_map, g.ok.ax]; exact q)] at hk2; cases hk2
          rw [ax_at g hkm] at hk2
          injection hk2 with hk2
          obtain ⟨_, _, _, hsp⟩ := g.axp k hkm
          rw [show D.ax.getD k 0 = endM D.n d by omega] at hsp
          rw [hsp]
          exact ⟨rfl, hb⟩
        · exact absurd (by rw [ax_at g hs, hax]) (hno (D.sp.getD (endM D.n d) 0))) hs
      have ht : D.turn d = if downB D.ls (endM D.n d) = decide (d % 2 = 0) then 2 * D.n + 2 * D.sp.getD (endM D.n d) 0 else 2 * D.n + 2 * ((D.sp.getD (endM D.n d) 0 + D.m - 1) % D.m) + 1 := by
        unfold DM.turn
        rw [if_neg h1, hl]
        dsimp only
        rw [if_neg (by rw [hk]; decide)]
      rw [ht]
      exact this
    · obtain ⟨hne, _, a, ha, ka, ia, _⟩ := g.ot _ _ hl hk
      have h2 := g.two _ _ hl hk
      have := turn_cross_ref f A Ax D.n c D.m cx d _ (D.ot.getD (endM D.n d) 0) D.ls l w hL (by omega) hn0 (by omega) rfl hl hk (fun W hW => by
        refine (other_calls f A D.n c D.ls _ l W (hL.below hW) (by omega) hl).mono ?_
        rintro e w' ⟨r, rfl, hr, hb⟩
        rcases hr with ⟨hri, o, ho, ko, io⟩ | ⟨_, hno⟩
        · rcases idx_pair (p := isId l.id) h2 hne ha hl ho (by simp [isId, ka, ia]) (by simp [isId, hk]) (by simp [isId, ko, io]) with e | e
          · rw [e]; exact ⟨rfl, hb⟩
          · exact absurd e hri
        · exact absurd ⟨ka, ia⟩ (hno _ a hne ha)) (g.lt ha)
      have ht : D.turn d = alongM D.n (D.ot.getD (endM D.n d) 0) (decide (d % 2 = 0) == (l.over == decide (l.sign = 1))) := by
        unfold DM.turn
        rw [if_neg h1, hl]
        dsimp only
        rw [if_pos hk]
      rw [ht]
      exact this

end Go.Proofs.YtbbpockkafbfmaaDoor
