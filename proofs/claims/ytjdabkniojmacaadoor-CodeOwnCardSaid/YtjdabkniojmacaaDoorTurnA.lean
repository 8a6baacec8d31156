/-
  The walks of Swap, Mirror, Turn, Back of codes: the changes of letters, the next pass.
-/
import Derived.Test.YtjdabkniojmacaaDoorEachB
namespace Go.Proofs.YtjdabkniojmacaaDoor
open Go.RowKit

/-- A letter with over and under exchanged. -/
def swapL (l : Lt) : Lt := ⟨l.kind, l.gate, l.rank, l.id, -l.sign, decide (l.kind = 2) && !l.over⟩
theorem six_end {w1 : World} {r : Nat} {c0 c1 c2 c3 c4 c5 : Value} {T : TypeId} (h : w1.heap[r]? = some (.cells #[c0, c1, c2, c3, c4, c5] T (0, 0))) (v0 v1 v2 v3 v4 v5 : Value) :
    ((((((w1.setCell ⟨r, 0, none⟩ v0).setCell ⟨r, 1, none⟩ v1).setCell ⟨r, 2, none⟩ v2).setCell ⟨r, 3, none⟩ v3).setCell ⟨r, 4, none⟩ v4).setCell ⟨r, 5, none⟩ v5).heap[r]? = some (.cells #[v0, v1, v2, v3, v4, v5] T (0, 0)) := by
  simp [World.setCell, Array.getElem?_modify, h]

set_option maxHeartbeats 1000000 in
theorem swap1_calls (l : Lt) (w : World) (hs : -1000 ≤ l.sign ∧ l.sign ≤ 1000) : Calls Tryd.prog 74 #[l.val] w fun e w' => e = .returned (swapL l).val ∧ Below w.heap.size w w' := by
  have HO := Lib.hid (fun W => otherStrand_calls l W)
  have HSW : Hid ((swapL l).val = .agg #[.int .i64 l.kind, .int .i64 l.gate, .int .i64 l.rank, .int .i64 l.id, .int .i64 (-l.sign), .bool (decide (l.kind = 2) && !l.over)]) := rfl
  rw [HSW.out]
  have HOV : Hid ((otherL l).val = .agg #[.int .i64 l.kind, .int .i64 l.gate, .int .i64 l.rank, .int .i64 l.id, .int .i64 l.sign, .bool (decide (l.kind = 2) && !l.over)]) := rfl
  rw [HOV.out] at HO
  have hw : IntKind.i64.wrap (-l.sign) = -l.sign := wrapI (by omega) (by omega)
  unfold Lt.val at HO ⊢
  obtain ⟨ov, hov⟩ : ∃ ov, (decide (l.kind = 2) && !l.over) = ov := ⟨_, rfl⟩
  rw [hov] at HO ⊢
  clear HSW HOV hov
  go_enter Tryd.func74, Tryd.ntmps74
  go_wp2_with fail
  obtain ⟨W0, hW0⟩ : ∃ W0, W0 = (w.alloc (.cells #[.int .i64 l.kind, .int .i64 l.gate, .int .i64 l.rank, .int .i64 l.id, .int .i64 l.sign, .bool l.over] 48)).alloc (.cells #[.int .i64 0, .int .i64 0, .int .i64 0, .int .i64 0, .int .i64 0, .bool false] 48) := ⟨_, rfl⟩
  have HF0 := Lib.hid (two_mem w _ _ W0 hW0)
  rw [← hW0]
  clear hW0
  refine (HO.out _).mono ?_
  rintro e w1 ⟨rfl, hb⟩
  have HM := Lib.hid (two_next HF0.out hb)
  obtain ⟨h1, h2, h3, h4⟩ := HM.out
  have a0 := Lib.cell_of_heap h1 0
  have a1 := Lib.cell_of_heap h1 1
  have a2 := Lib.cell_of_heap h1 2
  have a3 := Lib.cell_of_heap h1 3
  have a4 := Lib.cell_of_heap h1 4
  have a5 := Lib.cell_of_heap h1 5
  have fa : ∀ x, w1.frozen? ⟨w.heap.size, x, none⟩ = false := by intro x; simp [World.frozen?, h1]
  clear hb
  go_upto_region 2 with fail
  obtain ⟨X, hX⟩ : ∃ X, X = ((((((w1.setCell ⟨w.heap.size, 0, none⟩ (.int .i64 l.kind)).setCell ⟨w.heap.size, 1, none⟩ (.int .i64 l.gate)).setCell ⟨w.heap.size, 2, none⟩ (.int .i64 l.rank)).setCell ⟨w.heap.size, 3, none⟩ (.int .i64 l.id)).setCell ⟨w.heap.size, 4, none⟩ (.int .i64 l.sign)).setCell ⟨w.heap.size, 5, none⟩ (.bool ov)) := ⟨_, rfl⟩
  have x1 : X.heap[w.heap.size]? = some (.cells #[.int .i64 l.kind, .int .i64 l.gate, .int .i64 l.rank, .int .i64 l.id, .int .i64 l.sign, .bool ov] 48 (0, 0)) := by rw [hX]; exact six_end h1 _ _ _ _ _ _
  have xk : ∀ q, q ≠ w.heap.size → X.heap[q]? = w1.heap[q]? := fun q hq => by
    rw [hX]
    exact (Below.heap_setCell _ _ _ q hq).trans ((Below.heap_setCell _ _ _ q hq).trans ((Below.heap_setCell _ _ _ q hq).trans ((Below.heap_setCell _ _ _ q hq).trans ((Below.heap_setCell _ _ _ q hq).trans (Below.heap_setCell _ _ _ q hq)))))
  have xb : Below w.heap.size w X := by
    rw [hX]
    exact (((((h4.setCell (p := ⟨w.heap.size, 0, none⟩) (Nat.le_refl _) _).setCell (p := ⟨w.heap.size, 1, none⟩) (Nat.le_refl _) _).setCell (p := ⟨w.heap.size, 2, none⟩) (Nat.le_refl _) _).setCell (p := ⟨w.heap.size, 3, none⟩) (Nat.le_refl _) _).setCell (p := ⟨w.heap.size, 4, none⟩) (Nat.le_refl _) _).setCell (p := ⟨w.heap.size, 5, none⟩) (Nat.le_refl _) _
  have x2 := (xk (w.heap.size + 1) (by omega)).trans h2
  rw [← hX]
  clear hX xk a0 a1 a2 a3 a4 a5 fa h1 h2 h3 h4 HM HF0
  have a0 := Lib.cell_of_heap x1 0
  have a1 := Lib.cell_of_heap x1 1
  have a2 := Lib.cell_of_heap x1 2
  have a3 := Lib.cell_of_heap x1 3
  have a4 := Lib.cell_of_heap x1 4
  have a5 := Lib.cell_of_heap x1 5
  have fa : ∀ x, X.frozen? ⟨w.heap.size, x, none⟩ = false := by intro x; simp [World.frozen?, x1]
  go_upto_region 3 with fail
  obtain ⟨Y, hY⟩ : ∃ Y, Y = X.setCell ⟨w.heap.size, 4, none⟩ (.int .i64 (-l.sign)) := ⟨_, rfl⟩
  have y1 : Y.heap[w.heap.size]? = some (.cells #[.int .i64 l.kind, .int .i64 l.gate, .int .i64 l.rank, .int .i64 l.id, .int .i64 (-l.sign), .bool ov] 48 (0, 0)) := by rw [hY]; simp [World.setCell, Array.getElem?_modify, x1]
  have y2 : Y.heap[w.heap.size + 1]? = some (.cells #[.int .i64 0, .int .i64 0, .int .i64 0, .int .i64 0, .int .i64 0, .bool false] 48 (0, 0)) := by rw [hY]; exact (Below.heap_setCell _ _ _ _ (by show w.heap.size + 1 ≠ w.heap.size; omega)).trans x2
  have yb : Below w.heap.size w Y := by rw [hY]; exact xb.setCell (p := ⟨w.heap.size, 4, none⟩) (Nat.le_refl _) _
  rw [← hY]
  clear hY a0 a1 a2 a3 a4 a5 fa x1 x2 xb
  have a0 := Lib.cell_of_heap y1 0
  have a1 := Lib.cell_of_heap y1 1
  have a2 := Lib.cell_of_heap y1 2
  have a3 := Lib.cell_of_heap y1 3
  have a4 := Lib.cell_of_heap y1 4
  have a5 := Lib.cell_of_heap y1 5
  have b0 := Lib.cell_of_heap y2 0
  have b1 := Lib.cell_of_heap y2 1
  have b2 := Lib.cell_of_heap y2 2
  have b3 := Lib.cell_of_heap y2 3
  have b4 := Lib.cell_of_heap y2 4
  have b5 := Lib.cell_of_heap y2 5
  have fb : ∀ x, Y.frozen? ⟨w.heap.size + 1, x, none⟩ = false := by intro x; simp [World.frozen?, y2]
  go_wp2_with fail
  obtain ⟨Z, hZ⟩ : ∃ Z, Z = ((((((Y.setCell ⟨w.heap.size + 1, 0, none⟩ (.int .i64 l.kind)).setCell ⟨w.heap.size + 1, 1, none⟩ (.int .i64 l.gate)).setCell ⟨w.heap.size + 1, 2, none⟩ (.int .i64 l.rank)).setCell ⟨w.heap.size + 1, 3, none⟩ (.int .i64 l.id)).setCell ⟨w.heap.size + 1, 4, none⟩ (.int .i64 (-l.sign))).setCell ⟨w.heap.size + 1, 5, none⟩ (.bool ov)) := ⟨_, rfl⟩
  have z1 : Z.heap[w.heap.size + 1]? = some (.cells #[.int .i64 l.kind, .int .i64 l.gate, .int .i64 l.rank, .int .i64 l.id, .int .i64 (-l.sign), .bool ov] 48 (0, 0)) := by rw [hZ]; exact six_end y2 _ _ _ _ _ _
  have zb : Below w.heap.size w Z := by
    rw [hZ]
    have hle : w.heap.size ≤ w.heap.size + 1 := by omega
    exact (((((yb.setCell (p := ⟨w.heap.size + 1, 0, none⟩) hle _).setCell (p := ⟨w.heap.size + 1, 1, none⟩) hle _).setCell (p := ⟨w.heap.size + 1, 2, none⟩) hle _).setCell (p := ⟨w.heap.size + 1, 3, none⟩) hle _).setCell (p := ⟨w.heap.size + 1, 4, none⟩) hle _).setCell (p := ⟨w.heap.size + 1, 5, none⟩) hle _
  rw [← hZ]
  have k0 := Lib.cell_of_heap z1 0
  have k1 := Lib.cell_of_heap z1 1
  have k2 := Lib.cell_of_heap z1 2
  have k3 := Lib.cell_of_heap z1 3
  have k4 := Lib.cell_of_heap z1 4
  have k5 := Lib.cell_of_heap z1 5
  exact bodyPost_ret (v := .agg #[.int .i64 l.kind, .int .i64 l.gate, .int .i64 l.rank, .int .i64 l.id, .int .i64 (-l.sign), .bool ov]) (by simp [results, Tryd.results74, go_sem, k0, k1, k2, k3, k4, k5]) rfl ⟨rfl, zb⟩

/-- A letter reflected, of a code with f fingers. -/
def mirL (f : Int) (ls : List Lt) (l : Lt) : Lt := if l.kind = 1 then ⟨1, f - l.gate, cntB (inGate l.gate) ls + 1 - l.rank, 0, 0, false⟩ else ⟨l.kind, l.gate, l.rank, l.id, -l.sign, l.over⟩

set_option maxHeartbeats 4000000 in
theorem mirror1_calls (f : Int) (ls : List Lt) (pf pc g N B : Nat) (gs : List Value) (l : Lt) (w : World) (ho : OwnV w B 3 (.slice (some ⟨g, 0, none⟩) N N) gs) (hN : N ≤ 1000) (hf : 0 ≤ f ∧ f ≤ 1000)
    (hq : l.kind = 1 → 0 ≤ l.gate ∧ l.gate < N ∧ l.gate ≤ 1000 ∧ gs[l.gate.toNat]? = some (.int .i64 (cntB (inGate l.gate) ls)) ∧ (0 ≤ l.rank ∧ l.rank ≤ 1000000) ∧ cntB (inGate l.gate) ls ≤ 1000000)
    (hs : -1000 ≤ l.sign ∧ l.sign ≤ 1000)
    (hpf : pf < w.heap.size) (hpc : pc < w.heap.size) (hcf : w.cell? ⟨pf, 0, none⟩ = some (.int .i64 f)) (hcc : w.cell? ⟨pc, 0, none⟩ = some (.slice (some ⟨g, 0, none⟩) N N)) :
    Calls Tryd.prog 77 #[l.val, .pointer (some ⟨pf, 0, none⟩), .pointer (some ⟨pc, 0, none⟩)] w fun e w' => e = .returned (mirL f ls l).val ∧ Below w.heap.size w w' := by
  have hgg := (ho.lt g rfl).2
  have hne : g ≠ w.heap.size := by omega
  have hne1 : pf ≠ w.heap.size := by omega
  have hne2 : pc ≠ w.heap.size := by omega
  have hnf : g ≠ w.heap.size + 1 := by omega
  have hnf1 : pf ≠ w.heap.size + 1 := by omega
  have hnf2 : pc ≠ w.heap.size + 1 := by omega
  by_cases hk : l.kind = 1
  · have hke : (l.kind == 1) = true := by rw [beq_iff_eq]; exact hk
    obtain ⟨q0, q1, q5, q2, ⟨q3, q4⟩, q6⟩ := hq hk
    obtain ⟨G, hG⟩ : ∃ G : Nat, l.gate = (G : Int) := ⟨l.gate.toNat, by omega⟩
    have hGN : G < N := by omega
    have hGi : (G : Int) < N := by omega
    have q0' := cntB_nonneg (inGate l.gate) ls
    obtain ⟨q, hqq⟩ : ∃ q, cntB (inGate l.gate) ls = q := ⟨_, rfl⟩
    rw [hqq] at q2 q6 q0'
    have hcw : w.cell? ⟨g, G, none⟩ = some (.int .i64 q) := by
      obtain ⟨x, hx, hc, _⟩ := ho.cell (k := G) hGN
      rw [hG, Int.toNat_natCast, hx] at q2
      injection q2 with q2
      rw [hc, q2]
    have HE : Hid ((mirL f ls l).val = .agg #[.int .i64 1, .int .i64 (f - G), .int .i64 (q + 1 - l.rank), .int .i64 0, .int .i64 0, .bool false]) := by
      unfold Hid mirL
      rw [if_pos hk, hqq, hG]; rfl
    rw [HE.out]
    unfold Lt.val
    rw [hG]
    have w1 : IntKind.i64.wrap (f - (G : Int)) = f - G := wrapI (by omega) (by omega)
    have w2 : IntKind.i64.wrap (q + 1) = q + 1 := wrapI (by omega) (by omega)
    have w3 : IntKind.i64.wrap (q + 1 - l.rank) = q + 1 - l.rank := wrapI (by omega) (by omega)
    clear ho hq q2 hk hqq hG
    go_enter Tryd.func77, Tryd.ntmps77
    go_wp2_with fail
    go_region
    all_goals
      go_wp2_with fail
      refine bodyPost_ret (v := .agg #[.int .i64 1, .int .i64 (f - G), .int .i64 (q + 1 - l.rank), .int .i64 0, .int .i64 0, .bool false]) (by simp [results, Tryd.results77, go_sem]) rfl ⟨rfl, ?_⟩
      repeat first
        | exact Below.refl _ _
        | refine Below.drew ?_
        | refine Below.alloc ?_ (by simp) _
  · have hke : (l.kind == 1) = false := by rw [beq_eq_false_iff_ne]; exact hk
    have HE : Hid ((mirL f ls l).val = .agg #[.int .i64 l.kind, .int .i64 l.gate, .int .i64 l.rank, .int .i64 l.id, .int .i64 (-l.sign), .bool l.over]) := by
      unfold Hid mirL
      rw [if_neg hk]; rfl
    rw [HE.out]
    unfold Lt.val
    have hw : IntKind.i64.wrap (-l.sign) = -l.sign := wrapI (by omega) (by omega)
    clear ho hq hk
    go_enter Tryd.func77, Tryd.ntmps77
    go_wp2_with fail
    refine bodyPost_ret (v := .agg #[.int .i64 l.kind, .int .i64 l.gate, .int .i64 l.rank, .int .i64 l.id, .int .i64 (-l.sign), .bool l.over]) (by simp [results, Tryd.results77, go_sem]) rfl ⟨rfl, ?_⟩
    repeat first
      | exact Below.refl _ _
      | refine Below.drew ?_
      | refine Below.alloc ?_ (by simp) _

def NpRel (pos : Nat → Nat) (T : Nat) (w : World) (iv : Value) (wr : World) : Prop := ∃ t : Nat, t ≤ T ∧ iv = .int .i64 (pos t : Int) ∧ Below w.heap.size w wr

set_option maxHeartbeats 4000000 in
theorem nextPass_calls (A : Option Addr) (n c : Nat) (ls : List Lt) (step : Int) (T : Nat) (pos : Nat → Nat) (w : World) (hL : LS w A n ls) (hn : n ≤ 1000) (hst : step = 1 ∨ step = -1)
    (hps : ∀ t, t < T → ((pos (t + 1) : Nat) : Int) = (pos t : Int) + step) (hpn : ∀ t, t ≤ T → pos t < n) (hk : ∀ t l, t < T → ls[pos t]? = some l → l.kind ≠ 1) (hy : ∀ l, ls[pos T]? = some l → l.kind = 1) :
    Calls Tryd.prog 72 #[.slice A n c, .int .i64 (pos 0 : Int), .int .i64 step] w fun e w' => e = .returned (.int .i64 (pos T : Int)) ∧ Below w.heap.size w w' := by
  have HL := Lib.hid hL
  have HPS := Lib.hid hps
  have HPN := Lib.hid hpn
  have HK := Lib.hid hk
  have HY := Lib.hid hy
  have HST := Lib.hid hst
  clear hL hps hpn hk hy
  go_enter Tryd.func72, Tryd.ntmps72
  go_wp2_with fail
  go_loopw [1] (fun iv wr => NpRel pos T w iv wr) (fun iv _ => if step = 1 then n - (intOf iv).toNat else (intOf iv).toNat)
  case atStart => exact ⟨0, Nat.zero_le _, rfl, Below.refl _ _⟩
  case round =>
    obtain ⟨t, ht, rfl, hb⟩ := hrel
    have HB := Lib.hid hb
    have hpt := HPN.out t ht
    obtain ⟨b, off, l, rfl, hbl, hl, c0, c1, c2, c3, c4, c5⟩ := (HL.out.below hb).at_ hpt
    obtain ⟨p, hp⟩ : ∃ p, pos t = p := ⟨_, rfl⟩
    have HP := Lib.hid hp
    rw [hp] at hpt hl c0 c1 c2 c3 c4 c5 ⊢
    have hpi : (p : Int) < n := by omega
    have hp0 : decide ((0 : Int) ≤ (p : Int)) = true := by rw [decide_eq_true_iff]; omega
    by_cases hlt : t < T
    · have hke : (l.kind != 1) = true := by rw [bne_iff_ne]; exact HK.out t l hlt (by rw [HP.out]; exact hl)
      have hw : IntKind.i64.wrap ((p : Int) + step) = (p : Int) + step := wrapI (by rcases HST.out with h | h <;> omega) (by rcases HST.out with h | h <;> omega)
      have HN := Lib.hid (HPS.out t hlt)
      have HN2 := Lib.hid (HPN.out (t + 1) (by omega))
      clear hl hb hp
      go_wp2_with fail
      go_roundw
      case rel => exact ⟨t + 1, by omega, by rw [HN.out, HP.out], HB.out⟩
      case measure =>
        have h1 := HN.out
        have h2 := HN2.out
        rw [HP.out] at h1
        rcases HST.out with h | h
        · simp [intOf, h]; omega
        · simp [intOf, h]; omega
    · obtain rfl : t = T := by omega
      have hke : (l.kind != 1) = false := by rw [bne_eq_false_iff_eq]; exact HY.out l (by rw [HP.out]; exact hl)
      clear hl hb hp
      go_wp2_with fail
      go_ret
      exact ⟨ret_i64 (by rw [HP.out]), HB.out⟩

set_option maxHeartbeats 2000000 in
/-- .. of no letters. -/
theorem nextPass_none (A : Option Addr) (c : Nat) (i step : Int) (w : World) (hi : i < 0 ∨ 0 < i) :
    Calls Tryd.prog 72 #[.slice A 0 c, .int .i64 i, .int .i64 step] w fun e w' => e = .returned (.int .i64 i) ∧ Below w.heap.size w w' := by
  rcases hi with h | h
  · have h0 : decide ((0 : Int) ≤ i) = false := by rw [decide_eq_false_iff_not]; omega
    go_enter Tryd.func72, Tryd.ntmps72
    go_wp2_with fail
    go_loopw [1] (fun iv wr => iv = .int .i64 i ∧ wr = w) (fun _ _ => 0)
    case atStart => exact ⟨rfl, rfl⟩
    case round =>
      obtain ⟨rfl, rfl⟩ := hrel
      go_wp2_with fail
      go_ret
      exact ⟨rfl, Below.refl _ _⟩
  · have h0 : decide ((0 : Int) ≤ i) = true := by rw [decide_eq_true_iff]; omega
    have h1 : decide (i < (0 : Int)) = false := by rw [decide_eq_false_iff_not]; omega
    go_enter Tryd.func72, Tryd.ntmps72
    go_wp2_with fail
    go_loopw [1] (fun iv wr => iv = .int .i64 i ∧ wr = w) (fun _ _ => 0)
    case atStart => exact ⟨rfl, rfl⟩
    case round =>
      obtain ⟨rfl, rfl⟩ := hrel
      go_wp2_with fail
      go_ret
      exact ⟨rfl, Below.refl _ _⟩

end Go.Proofs.YtjdabkniojmacaaDoor
