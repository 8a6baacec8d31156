/-
  The map of a code in memory, and the walks of its small methods.
-/
import Derived.Test.YtbbpockkafbfmaaDoorLet3
import Derived.Laws.StructEq
namespace Go.Proofs.YtbbpockkafbfmaaDoor
open Go.RowKit

/-- The map of a code: its six cells. -/
def Dia (w : World) (P : Nat) (f : Int) (vL vA vX vS vO : Value) : Prop :=
  P < w.heap.size ∧ w.cell? ⟨P, 0, none⟩ = some (.int .i64 f) ∧ w.cell? ⟨P, 1, none⟩ = some vL ∧ w.cell? ⟨P, 2, none⟩ = some vA ∧ w.cell? ⟨P, 3, none⟩ = some vX ∧ w.cell? ⟨P, 4, none⟩ = some vS ∧ w.cell? ⟨P, 5, none⟩ = some vO
theorem Dia.below {w w' : World} {P : Nat} {f : Int} {vL vA vX vS vO : Value} (h : Dia w P f vL vA vX vS vO) (hb : Below w.heap.size w w') : Dia w' P f vL vA vX vS vO := by
  obtain ⟨h, c0, c1, c2, c3, c4, c5⟩ := h
  have e : ∀ o, w'.cell? ⟨P, o, none⟩ = w.cell? ⟨P, o, none⟩ := fun o => hb.cell (p := ⟨P, o, none⟩) h
  exact ⟨Nat.lt_of_lt_of_le h hb.size, (e _).trans c0, (e _).trans c1, (e _).trans c2, (e _).trans c3, (e _).trans c4, (e _).trans c5⟩
theorem Dia.drewN {w : World} {P : Nat} {f : Int} {vL vA vX vS vO : Value} (h : Dia w P f vL vA vX vS vO) (q : Nat) : Dia (w.drewN q) P f vL vA vX vS vO := h

/-- The letter at which a dart ends. -/
def endM (n d : Nat) : Nat := if d % 2 = 1 then d / 2 else (d / 2 + 1) % n
/-- The dart that leaves a letter. -/
def leaveM (n i : Nat) (back : Bool) : Nat := if back then 2 * ((i + n - 1) % n) + 1 else 2 * i

set_option maxHeartbeats 1000000 in
theorem end_calls (P : Nat) (f : Int) (A : Option Addr) (n c d : Nat) (vA vX vS vO : Value) (w : World) (h : Dia w P f (.slice A n c) vA vX vS vO) (hn : n ≤ 1000000) (hn0 : 0 < n) (hd : d < 2 * n) :
    Calls Tryd.prog 84 #[.pointer (some ⟨P, 0, none⟩), .int .i64 (d : Int)] w fun e w' => e = .returned (.int .i64 (endM n d)) ∧ ∃ q, w' = w.drewN q := by
  obtain ⟨hP, p0, p1, p2, p3, p4, p5⟩ := h
  have hni : (0 : Int) < n := by omega
  obtain ⟨g, hg⟩ : ∃ g, d / 2 = g := ⟨_, rfl⟩
  have e3 : (d : Int) / 2 = (g : Int) := by omega
  by_cases ho : d % 2 = 1
  · have e1 : (d : Int) % 2 = 1 := by omega
    have HM : Hid (endM n d = g) := by unfold Hid endM; rw [if_pos ho, hg]
    clear ho hg
    go_enter Tryd.func84, Tryd.ntmps84
    go_wp2_with fail
    go_ret
    exact ⟨ret_i64 (by rw [HM.out]), by first | exact ⟨0, rfl⟩ | exact ⟨_, rfl⟩⟩
  · have e1 : (d : Int) % 2 = 0 := by omega
    have hm : ((g : Int) + 1) % (n : Int) = ((g + 1) % n : Nat) := by rw [← Int.natCast_one, ← Int.natCast_add, ← Int.natCast_emod]
    have HM : Hid (endM n d = (g + 1) % n) := by unfold Hid endM; rw [if_neg ho, hg]
    clear ho hg
    generalize (g + 1) % n = m at hm HM
    go_enter Tryd.func84, Tryd.ntmps84
    go_wp2_with fail
    go_ret
    exact ⟨ret_i64 (by rw [HM.out]; exact hm), by first | exact ⟨0, rfl⟩ | exact ⟨_, rfl⟩⟩

set_option maxHeartbeats 1000000 in
theorem leave_calls (P : Nat) (f : Int) (A : Option Addr) (n c i : Nat) (back : Bool) (vA vX vS vO : Value) (w : World) (h : Dia w P f (.slice A n c) vA vX vS vO) (hn : n ≤ 1000000) (hi : i < n) :
    Calls Tryd.prog 108 #[.pointer (some ⟨P, 0, none⟩), .int .i64 (i : Int), .bool back] w fun e w' => e = .returned (.int .i64 (leaveM n i back)) ∧ ∃ q, w' = w.drewN q := by
  obtain ⟨hP, p0, p1, p2, p3, p4, p5⟩ := h
  have hni : (0 : Int) < n := by omega
  cases back
  · have HM : Hid (leaveM n i false = 2 * i) := rfl
    go_enter Tryd.func108, Tryd.ntmps108
    go_wp2_with fail
    go_ret
    exact ⟨ret_i64 (by rw [HM.out]; omega), by first | exact ⟨0, rfl⟩ | exact ⟨_, rfl⟩⟩
  · have hm : ((i : Int) + (n : Int) - 1) % (n : Int) = ((i + n - 1) % n : Nat) := by
      rw [show (i : Int) + (n : Int) - 1 = ((i + n - 1 : Nat) : Int) by omega, ← Int.natCast_emod]
    have HM : Hid (leaveM n i true = 2 * ((i + n - 1) % n) + 1) := rfl
    have hlt : (i + n - 1) % n < n := Nat.mod_lt _ (by omega)
    generalize (i + n - 1) % n = m at hm HM hlt
    go_enter Tryd.func108, Tryd.ntmps108
    go_wp2_with fail
    go_ret
    exact ⟨ret_i64 (by rw [HM.out]; omega), by first | exact ⟨0, rfl⟩ | exact ⟨_, rfl⟩⟩

/-- The slice at A of n Booleans reads as the list bs. -/
def BL (w : World) (A : Option Addr) (n : Nat) (bs : List Bool) : Prop :=
  bs.length = n ∧ (0 < n → ∃ b off, A = some ⟨b, off, none⟩ ∧ b < w.heap.size ∧ ∀ k x, bs[k]? = some x → w.cell? ⟨b, off + k, none⟩ = some (.bool x))
theorem BL.below {w w' : World} {A : Option Addr} {n : Nat} {bs : List Bool} (h : BL w A n bs) (hb : Below w.heap.size w w') : BL w' A n bs :=
  ⟨h.1, fun hn => by
    obtain ⟨b, off, hA, hlt, hc⟩ := h.2 hn
    exact ⟨b, off, hA, Nat.lt_of_lt_of_le hlt hb.size, fun k x hk => (hb.cell (p := ⟨b, off + k, none⟩) hlt).trans (hc k x hk)⟩⟩
theorem BL.at_ {w : World} {A : Option Addr} {n : Nat} {bs : List Bool} (h : BL w A n bs) {k : Nat} (hk : k < n) : ∃ b off x, A = some ⟨b, off, none⟩ ∧ b < w.heap.size ∧ bs[k]? = some x ∧ w.cell? ⟨b, off + k, none⟩ = some (.bool x) := by
  obtain ⟨b, off, hA, hlt, hc⟩ := h.2 (by omega)
  have hl : k < bs.length := by have := h.1; omega
  exact ⟨b, off, bs[k], hA, hlt, List.getElem?_eq_getElem hl, hc k _ (List.getElem?_eq_getElem hl)⟩

set_option maxHeartbeats 2000000 in
theorem left_cross (P : Nat) (f : Int) (A Ao : Option Addr) (n c d e o m co : Nat) (ls : List Lt) (ot : List Int) (l : Lt) (vA vX vS : Value) (w : World) (h : Dia w P f (.slice A n c) vA vX vS (.slice Ao m co)) (hL : LS w A n ls) (hO : SL w Ao m ot)
    (hn : n ≤ 1000000) (hd : d < 2 * n) (he : endM n d = e) (hen : e < n) (hem : e < m) (hl : ls[e]? = some l) (hk : l.kind = 2) (ho : ot[e]? = some (o : Int)) (hon : o < n) :
    Calls Tryd.prog 83 #[.pointer (some ⟨P, 0, none⟩), .int .i64 (d : Int)] w fun ed w' => ed = .returned (.int .i64 (leaveM n o (decide (d % 2 = 1) == (l.over == decide (l.sign = 1))))) ∧ Below w.heap.size w w' := by
  have HD := Lib.hid h
  have HE := Lib.hid (end_calls P f A n c d vA vX vS (.slice Ao m co) w h hn (by omega) hd)
  rw [he] at HE
  have HLS := Lib.hid hL
  have HSO := Lib.hid hO
  have HL := Lib.hid hl
  have HO := Lib.hid ho
  have hei : (e : Int) < n := by omega
  have hei2 : (e : Int) < m := by omega
  have hke : (l.kind == 2) = true := by rw [beq_iff_eq]; exact hk
  obtain ⟨g, hg⟩ : ∃ g, d / 2 = g := ⟨_, rfl⟩
  have e3 : (d : Int) / 2 = (g : Int) := by omega
  obtain ⟨bk, hbk⟩ : ∃ b, decide (d % 2 = 1) = b := ⟨_, rfl⟩
  obtain ⟨sg, hsg⟩ : ∃ b, decide (l.sign = 1) = b := ⟨_, rfl⟩
  have hbk2 : ((d : Int) % 2 == 1) = bk := by rw [← hbk, Bool.eq_iff_iff, beq_iff_eq, decide_eq_true_eq]; omega
  have hsg2 : (l.sign == 1) = sg := by rw [← hsg, Bool.eq_iff_iff, beq_iff_eq, decide_eq_true_eq]
  rw [hbk, hsg]
  have HLV := Lib.hid (fun W (hb : Below w.heap.size w W) b => leave_calls P f A n c o b vA vX vS (.slice Ao m co) W (HD.out.below hb) hn hon)
  clear hl ho hk hg hbk hsg h hL hO
  go_enter Tryd.func83, Tryd.ntmps83
  go_wp2_with fail
  refine HE.out.mono ?_
  rintro ed w1 ⟨rfl, hd1⟩
  have HB1 : Hid (Below w.heap.size w w1) := by
    obtain ⟨q, rfl⟩ := hd1
    exact below_drewN (Below.refl _ _) _
  clear hd1
  obtain ⟨bL, oL, l', rfl, hbL, hl', c0, c1, c2, c3, c4, c5⟩ := (HLS.out.below HB1.out).at_ hen
  obtain rfl : l = l' := by have h1 := HL.out; rw [hl'] at h1; injection h1 with h1; exact h1.symm
  obtain ⟨bO, oO, o', rfl, hbO, ho', co0⟩ := (HSO.out.below HB1.out).at_ hem
  obtain rfl : (o : Int) = o' := by have h1 := HO.out; rw [ho'] at h1; injection h1 with h1; exact h1.symm
  obtain ⟨hP, p0, p1, p2, p3, p4, p5⟩ := HD.out.below HB1.out
  clear hl' ho'
  go_wp2_with fail
  refine (HLV.out _ (HB1.out.alloc HB1.out.size _) _).mono ?_
  rintro ed w2 ⟨rfl, hd2⟩
  have HB2 : Hid (Below w.heap.size w w2) := by
    obtain ⟨q, rfl⟩ := hd2
    exact below_drewN (HB1.out.alloc HB1.out.size _) _
  clear hd2
  go_wp2_with fail
  go_ret
  exact ⟨rfl, HB2.out⟩

/-- The pass that comes next on the axis. -/
def nextM (m s : Nat) (up : Bool) : Nat := if up then (s + 1 + m) % m else (s + m - 1) % m

set_option maxHeartbeats 4000000 in
set_option maxRecDepth 100000 in
theorem left_pass (P : Nat) (f : Int) (A Aa Ax As : Option Addr) (n c d e s x na ca m cx ns cs : Nat) (ls : List Lt) (ab : List Bool) (ax sp : List Int) (l : Lt) (u v : Bool) (vO : Value) (w : World)
    (h : Dia w P f (.slice A n c) (.slice Aa na ca) (.slice Ax m cx) (.slice As ns cs) vO) (hL : LS w A n ls) (hA : BL w Aa na ab) (hX : SL w Ax m ax) (hS : SL w As ns sp)
    (hn : n ≤ 1000000) (hd : d < 2 * n) (he : endM n d = e) (hen : e < n) (hes : e < ns) (hl : ls[e]? = some l) (hk : l.kind ≠ 2) (hs : sp[e]? = some (s : Int)) (hsm : s < m) (hm : m ≤ 1000000)
    (hda : d / 2 < na) (hu : ab[d / 2]? = some u) (hx : ax[nextM m s u]? = some (x : Int)) (hxa : x < na) (hv : ab[x]? = some v) (hxn : x < n) :
    Calls Tryd.prog 83 #[.pointer (some ⟨P, 0, none⟩), .int .i64 (d : Int)] w fun ed w' => ed = .returned (.int .i64 (leaveM n x (v != u))) ∧ Below w.heap.size w w' := by
  have HD := Lib.hid h
  have HE := Lib.hid (end_calls P f A n c d (.slice Aa na ca) (.slice Ax m cx) (.slice As ns cs) vO w h hn (by omega) hd)
  rw [he] at HE
  have HLS := Lib.hid hL
  have HAB := Lib.hid hA
  have HAX := Lib.hid hX
  have HSP := Lib.hid hS
  have HL := Lib.hid hl
  have HS := Lib.hid hs
  have HU := Lib.hid hu
  have HX := Lib.hid hx
  have HV := Lib.hid hv
  have hei : (e : Int) < n := by omega
  have hei2 : (e : Int) < ns := by omega
  have hke : (l.kind == 2) = false := by rw [beq_eq_false_iff_ne]; exact hk
  obtain ⟨g, hg⟩ : ∃ g, d / 2 = g := ⟨_, rfl⟩
  rw [hg] at hda HU
  have hgi : (g : Int) < na := by omega
  have hxi : (x : Int) < na := by omega
  have e3 : (d : Int) / 2 = (g : Int) := by omega
  have hnx : nextM m s u < m := by unfold nextM; split <;> exact Nat.mod_lt _ (by omega)
  have hnu : ((s : Int) + 1 + (m : Int)) % (m : Int) = (((s + 1 + m) % m : Nat) : Int) := by
    rw [show (s : Int) + 1 + (m : Int) = ((s + 1 + m : Nat) : Int) by omega, ← Int.natCast_emod]
  have hnd : ((s : Int) + -1 + (m : Int)) % (m : Int) = (((s + m - 1) % m : Nat) : Int) := by
    rw [show (s : Int) + -1 + (m : Int) = ((s + m - 1 : Nat) : Int) by omega, ← Int.natCast_emod]
  have hmi : (0 : Int) < m := by omega
  have HLV := Lib.hid (fun W (hb : Below w.heap.size w W) b => leave_calls P f A n c x b (.slice Aa na ca) (.slice Ax m cx) (.slice As ns cs) vO W (HD.out.below hb) hn hxn)
  clear hl hs hu hx hv hk hg h hL hA hX hS he
  go_enter Tryd.func83, Tryd.ntmps83
  go_wp2_with fail
  refine HE.out.mono ?_
  rintro ed w1 ⟨rfl, hd1⟩
  have HB1 : Hid (Below w.heap.size w w1) := by
    obtain ⟨q, rfl⟩ := hd1
    exact below_drewN (Below.refl _ _) _
  clear hd1
  obtain ⟨bL, oL, l', rfl, hbL, hl', c0, c1, c2, c3, c4, c5⟩ := (HLS.out.below HB1.out).at_ hen
  obtain rfl : l = l' := by have h1 := HL.out; rw [hl'] at h1; injection h1 with h1; exact h1.symm
  obtain ⟨bS, oS, s', rfl, hbS, hs', cs0⟩ := (HSP.out.below HB1.out).at_ hes
  obtain rfl : (s : Int) = s' := by have h1 := HS.out; rw [hs'] at h1; injection h1 with h1; exact h1.symm
  obtain ⟨bA, oA, u', rfl, hbA, hu', ca0⟩ := (HAB.out.below HB1.out).at_ hda
  obtain rfl : u = u' := by have h1 := HU.out; rw [hu'] at h1; injection h1 with h1; exact h1.symm
  obtain ⟨bA', oA', v', hAA, _, hv', ca1⟩ := (HAB.out.below HB1.out).at_ hxa
  obtain ⟨rfl, rfl⟩ : bA = bA' ∧ oA = oA' := by injection hAA with hAA; injection hAA with e1 e2; exact ⟨e1, e2⟩
  obtain rfl : v = v' := by have h1 := HV.out; rw [hv'] at h1; injection h1 with h1; exact h1.symm
  obtain ⟨bX, oX, x', rfl, hbX, hx', cx0⟩ := (HAX.out.below HB1.out).at_ hnx
  obtain rfl : (x : Int) = x' := by have h1 := HX.out; rw [hx'] at h1; injection h1 with h1; exact h1.symm
  obtain ⟨hP, p0, p1, p2, p3, p4, p5⟩ := HD.out.below HB1.out
  clear hl' hs' hu' hv' hx' hAA
  cases u
  · have hq : nextM m s false = (s + m - 1) % m := rfl
    rw [hq] at cx0 hnx
    clear hnu hq
    generalize (s + m - 1) % m = nx at hnd hnx cx0
    have hnxi : (nx : Int) < m := by omega
    go_wp2_with fail
    go_quiet (fail)
    go_wp2_with fail
    go_quiet ((go_at_call 108; (refine Calls.mono (HLV.out _ (by first | exact below_drewN (below_drewN (HB1.out.alloc HB1.out.size _) _) _ | exact below_drewN (HB1.out.alloc HB1.out.size _) _) _) ?_); rintro ed w2 ⟨rfl, q2, hq2⟩; exact ⟨rfl, _, by rw [hq2, World.drewN_drewN, Nat.add_assoc]⟩))
    go_wp2_with fail
    go_ret
    exact ⟨ret_i64 (by simp), by first | exact below_drewN (HB1.out.alloc HB1.out.size _) _ | exact below_drewN (below_drewN (HB1.out.alloc HB1.out.size _) _) _⟩
  · have hq : nextM m s true = (s + 1 + m) % m := rfl
    rw [hq] at cx0 hnx
    clear hnd hq
    generalize (s + 1 + m) % m = nx at hnu hnx cx0
    have hnxi : (nx : Int) < m := by omega
    go_wp2_with fail
    go_quiet (fail)
    go_wp2_with fail
    go_quiet ((go_at_call 108; (refine Calls.mono (HLV.out _ (by first | exact below_drewN (below_drewN (HB1.out.alloc HB1.out.size _) _) _ | exact below_drewN (HB1.out.alloc HB1.out.size _) _) _) ?_); rintro ed w2 ⟨rfl, q2, hq2⟩; exact ⟨rfl, _, by rw [hq2, World.drewN_drewN, Nat.add_assoc]⟩))
    go_wp2_with fail
    go_ret
    exact ⟨ret_i64 (by simp), by first | exact below_drewN (HB1.out.alloc HB1.out.size _) _ | exact below_drewN (below_drewN (HB1.out.alloc HB1.out.size _) _) _⟩

end Go.Proofs.YtbbpockkafbfmaaDoor
