/-
  TurnA TurnB, one after the other.
-/
import Derived.Test.YtjdabkniojmacaaDoorEachB
import Derived.Test.YtjdabkniojmacaaDoorNorm

/-
  The walks of Swap, Mirror, Turn, Back of codes: the changes of letters, the next pass.
-/
namespace Go.Proofs.YtjdabkniojmacaaDoor
open Go.RowKit

/-- A letter with over and under exchanged. -/
def swapL (l : Lt) : Lt := ⟨l.kind, l.gate, l.rank, l.id, -l.sign, decide (l.kind = 2) && !l.over⟩
theorem six_end {w1 : World} {r : Nat} {c0 c1 c2 c3 c4 c5 : Value} {T : TypeId} (h : w1.heap[r]? = some (.cells #[c0, c1, c2, c3, c4, c5] T (0, 0))) (v0 v1 v2 v3 v4 v5 : Value) :
    ((((((w1.setCell ⟨r, 0, none⟩ v0).setCell ⟨r, 1, none⟩ v1).setCell ⟨r, 2, none⟩ v2).setCell ⟨r, 3, none⟩ v3).setCell ⟨r, 4, none⟩ v4).setCell ⟨r, 5, none⟩ v5).heap[r]? = some (.cells #[v0, v1, v2, v3, v4, v5] T (0, 0)) := by
  simp [World.setCell, Array.getElem?_modify, h]

set_option maxHeartbeats 1000000 in
theorem swap1_calls (l : Lt) (w : World) (hs : -1000 ≤ l.sign ∧ l.sign ≤ 1000) : Calls Tryd.prog 74 #[l.val] w fun e w' => e = .returned (swapL l).val ∧ Below w.heap.size w w' := by
  have HO := Lib.hid (fun W => otherStrand_calls l W)
  have HSW : Hid ((swapL l).val = .agg #[.int .i64 l.kind, .int .i64 l.gate, .int .i64 l.rank, .int .i64 l.id, .int .i64 (-l.sign), .bool (decide (l.kind = 2) && !l.over)]) := rfl
  rw [HSW.out]
  have HOV : Hid ((otherL l).val = .agg #[.int .i64 l.kind, .int .i64 l.gate, .int .i64 l.rank, .int .i64 l.id, .int .i64 l.sign, .bool (decide (l.kind = 2) && !l.over)]) := rfl
  rw [HOV.out] at HO
  have hw : IntKind.i64.wrap (-l.sign) = -l.sign := wrapI (by omega) (by omega)
  unfold Lt.val at HO ⊢
  obtain ⟨ov, hov⟩ : ∃ ov, (decide (l.kind = 2) && !l.over) = ov := ⟨_, rfl⟩
  rw [hov] at HO ⊢
  clear HSW HOV hov
  go_enter Tryd.func74, Tryd.ntmps74
  go_wp2_with fail
  obtain ⟨W0, hW0⟩ : ∃ W0, W0 = (w.alloc (.cells #[.int .i64 l.kind, .int .i64 l.gate, .int .i64 l.rank, .int .i64 l.id, .int .i64 l.sign, .bool l.over] 48)).alloc (.cells #[.int .i64 0, .int .i64 0, .int .i64 0, .int .i64 0, .int .i64 0, .bool false] 48) := ⟨_, rfl⟩
  have HF0 := Lib.hid (two_mem w _ _ W0 hW0)
  rw [← hW0]
  clear hW0
  refine (HO.out _).mono ?_
  rintro e w1 ⟨rfl, hb⟩
  have HM := Lib.hid (two_next HF0.out hb)
  obtain ⟨h1, h2, h3, h4⟩ := HM.out
  have a0 := Lib.cell_of_heap h1 0
  have a1 := Lib.cell_of_heap h1 1
  have a2 := Lib.cell_of_heap h1 2
  have a3 := Lib.cell_of_heap h1 3
  have a4 := Lib.cell_of_heap h1 4
  have a5 := Lib.cell_of_heap h1 5
  have fa : ∀ x, w1.frozen? ⟨w.heap.size, x, none⟩ = false := by intro x; simp [World.frozen?, h1]
  clear hb
  go_upto_region 2 with fail
  obtain ⟨X, hX⟩ : ∃ X, X = ((((((w1.setCell ⟨w.heap.size, 0, none⟩ (.int .i64 l.kind)).setCell ⟨w.heap.size, 1, none⟩ (.int .i64 l.gate)).setCell ⟨w.heap.size, 2, none⟩ (.int .i64 l.rank)).setCell ⟨w.heap.size, 3, none⟩ (.int .i64 l.id)).setCell ⟨w.heap.size, 4, none⟩ (.int .i64 l.sign)).setCell ⟨w.heap.size, 5, none⟩ (.bool ov)) := ⟨_, rfl⟩
  have x1 : X.heap[w.heap.size]? = some (.cells #[.int .i64 l.kind, .int .i64 l.gate, .int .i64 l.rank, .int .i64 l.id, .int .i64 l.sign, .bool ov] 48 (0, 0)) := by rw [hX]; exact six_end h1 _ _ _ _ _ _
  have xk : ∀ q, q ≠ w.heap.size → X.heap[q]? = w1.heap[q]? := fun q hq => by
    rw [hX]
    exact (Below.heap_setCell _ _ _ q hq).trans ((Below.heap_setCell _ _ _ q hq).trans ((Below.heap_setCell _ _ _ q hq).trans ((Below.heap_setCell _ _ _ q hq).trans ((Below.heap_setCell _ _ _ q hq).trans (Below.heap_setCell _ _ _ q hq)))))
  have xb : Below w.heap.size w X := by
    rw [hX]
    exact (((((h4.setCell (p := ⟨w.heap.size, 0, none⟩) (Nat.le_refl _) _).setCell (p := ⟨w.heap.size, 1, none⟩) (Nat.le_refl _) _).setCell (p := ⟨w.heap.size, 2, none⟩) (Nat.le_refl _) _).setCell (p := ⟨w.heap.size, 3, none⟩) (Nat.le_refl _) _).setCell (p := ⟨w.heap.size, 4, none⟩) (Nat.le_refl _) _).setCell (p := ⟨w.heap.size, 5, none⟩) (Nat.le_refl _) _
  have x2 := (xk (w.heap.size + 1) (by omega)).trans h2
  rw [← hX]
  clear hX xk a0 a1 a2 a3 a4 a5 fa h1 h2 h3 h4 HM HF0
  have a0 := Lib.cell_of_heap x1 0
  have a1 := Lib.cell_of_heap x1 1
  have a2 := Lib.cell_of_heap x1 2
  have a3 := Lib.cell_of_heap x1 3
  have a4 := Lib.cell_of_heap x1 4
  have a5 := Lib.cell_of_heap x1 5
  have fa : ∀ x, X.frozen? ⟨w.heap.size, x, none⟩ = false := by intro x; simp [World.frozen?, x1]
  go_upto_region 3 with fail
  obtain ⟨Y, hY⟩ : ∃ Y, Y = X.setCell ⟨w.heap.size, 4, none⟩ (.int .i64 (-l.sign)) := ⟨_, rfl⟩
  have y1 : Y.heap[w.heap.size]? = some (.cells #[.int .i64 l.kind, .int .i64 l.gate, .int .i64 l.rank, .int .i64 l.id, .int .i64 (-l.sign), .bool ov] 48 (0, 0)) := by rw [hY]; simp [World.setCell, Array.getElem?_modify, x1]
  have y2 : Y.heap[w.heap.size + 1]? = some (.cells #[.int .i64 0, .int .i64 0, .int .i64 0, .int .i64 0, .int .i64 0, .bool false] 48 (0, 0)) := by rw [hY]; exact (Below.heap_setCell _ _ _ _ (by show w.heap.size + 1 ≠ w.heap.size; omega)).trans x2
  have yb : Below w.heap.size w Y := by rw [hY]; exact xb.setCell (p := ⟨w.heap.size, 4, none⟩) (Nat.le_refl _) _
  rw [← hY]
  clear hY a0 a1 a2 a3 a4 a5 fa x1 x2 xb
  have a0 := Lib.cell_of_heap y1 0
  have a1 := Lib.cell_of_heap y1 1
  have a2 := Lib.cell_of_heap y1 2
  have a3 := Lib.cell_of_heap y1 3
  have a4 := Lib.cell_of_heap y1 4
  have a5 := Lib.cell_of_heap y1 5
  have b0 := Lib.cell_of_heap y2 0
  have b1 := Lib.cell_of_heap y2 1
  have b2 := Lib.cell_of_heap y2 2
  have b3 := Lib.cell_of_heap y2 3
  have b4 := Lib.cell_of_heap y2 4
  have b5 := Lib.cell_of_heap y2 5
  have fb : ∀ x, Y.frozen? ⟨w.heap.size + 1, x, none⟩ = false := by intro x; simp [World.frozen?, y2]
  go_wp2_with fail
  obtain ⟨Z, hZ⟩ : ∃ Z, Z = ((((((Y.setCell ⟨w.heap.size + 1, 0, none⟩ (.int .i64 l.kind)).setCell ⟨w.heap.size + 1, 1, none⟩ (.int .i64 l.gate)).setCell ⟨w.heap.size + 1, 2, none⟩ (.int .i64 l.rank)).setCell ⟨w.heap.size + 1, 3, none⟩ (.int .i64 l.id)).setCell ⟨w.heap.size + 1, 4, none⟩ (.int .i64 (-l.sign))).setCell ⟨w.heap.size + 1, 5, none⟩ (.bool ov)) := ⟨_, rfl⟩
  have z1 : Z.heap[w.heap.size + 1]? = some (.cells #[.int .i64 l.kind, .int .i64 l.gate, .int .i64 l.rank, .int .i64 l.id, .int .i64 (-l.sign), .bool ov] 48 (0, 0)) := by rw [hZ]; exact six_end y2 _ _ _ _ _ _
  have zb : Below w.heap.size w Z := by
    rw [hZ]
    have hle : w.heap.size ≤ w.heap.size + 1 := by omega
    exact (((((yb.setCell (p := ⟨w.heap.size + 1, 0, none⟩) hle _).setCell (p := ⟨w.heap.size + 1, 1, none⟩) hle _).setCell (p := ⟨w.heap.size + 1, 2, none⟩) hle _).setCell (p := ⟨w.heap.size + 1, 3, none⟩) hle _).setCell (p := ⟨w.heap.size + 1, 4, none⟩) hle _).setCell (p := ⟨w.heap.size + 1, 5, none⟩) hle _
  rw [← hZ]
  have k0 := Lib.cell_of_heap z1 0
  have k1 := Lib.cell_of_heap z1 1
  have k2 := Lib.cell_of_heap z1 2
  have k3 := Lib.cell_of_heap z1 3
  have k4 := Lib.cell_of_heap z1 4
  have k5 := Lib.cell_of_heap z1 5
  exact bodyPost_ret (v := .agg #[.int .i64 l.kind, .int .i64 l.gate, .int .i64 l.rank, .int .i64 l.id, .int .i64 (-l.sign), .bool ov]) (by simp [results, Tryd.results74, go_sem, k0, k1, k2, k3, k4, k5]) rfl ⟨rfl, zb⟩

/-- A letter reflected, of a code with f fingers. -/
def mirL (f : Int) (ls : List Lt) (l : Lt) : Lt := if l.kind = 1 then ⟨1, f - l.gate, cntB (inGate l.gate) ls + 1 - l.rank, 0, 0, false⟩ else ⟨l.kind, l.gate, l.rank, l.id, -l.sign, l.over⟩

set_option maxHeartbeats 4000000 in
theorem mirror1_calls (f : Int) (ls : List Lt) (pf pc g N B : Nat) (gs : List Value) (l : Lt) (w : World) (ho : OwnV w B 3 (.slice (some ⟨g, 0, none⟩) N N) gs) (hN : N ≤ 1000) (hf : 0 ≤ f ∧ f ≤ 1000)
    (hq : l.kind = 1 → 0 ≤ l.gate ∧ l.gate < N ∧ l.gate ≤ 1000 ∧ gs[l.gate.toNat]? = some (.int .i64 (cntB (inGate l.gate) ls)) ∧ (0 ≤ l.rank ∧ l.rank ≤ 1000000) ∧ cntB (inGate l.gate) ls ≤ 1000000)
    (hs : -1000 ≤ l.sign ∧ l.sign ≤ 1000)
    (hpf : pf < w.heap.size) (hpc : pc < w.heap.size) (hcf : w.cell? ⟨pf, 0, none⟩ = some (.int .i64 f)) (hcc : w.cell? ⟨pc, 0, none⟩ = some (.slice (some ⟨g, 0, none⟩) N N)) :
    Calls Tryd.prog 77 #[l.val, .pointer (some ⟨pf, 0, none⟩), .pointer (some ⟨pc, 0, none⟩)] w fun e w' => e = .returned (mirL f ls l).val ∧ Below w.heap.size w w' := by
  have hgg := (ho.lt g rfl).2
  have hne : g ≠ w.heap.size := by omega
  have hne1 : pf ≠ w.heap.size := by omega
  have hne2 : pc ≠ w.heap.size := by omega
  have hnf : g ≠ w.heap.size + 1 := by omega
  have hnf1 : pf ≠ w.heap.size + 1 := by omega
  have hnf2 : pc ≠ w.heap.size + 1 := by omega
  by_cases hk : l.kind = 1
  · have hke : (l.kind == 1) = true := by rw [beq_iff_eq]; exact hk
    obtain ⟨q0, q1, q5, q2, ⟨q3, q4⟩, q6⟩ := hq hk
    obtain ⟨G, hG⟩ : ∃ G : Nat, l.gate = (G : Int) := ⟨l.gate.toNat, by omega⟩
    have hGN : G < N := by omega
    have hGi : (G : Int) < N := by omega
    have q0' := cntB_nonneg (inGate l.gate) ls
    obtain ⟨q, hqq⟩ : ∃ q, cntB (inGate l.gate) ls = q := ⟨_, rfl⟩
    rw [hqq] at q2 q6 q0'
    have hcw : w.cell? ⟨g, G, none⟩ = some (.int .i64 q) := by
      obtain ⟨x, hx, hc, _⟩ := ho.cell (k := G) hGN
      rw [hG, Int.toNat_natCast, hx] at q2
      injection q2 with q2
      rw [hc, q2]
    have HE : Hid ((mirL f ls l).val = .agg #[.int .i64 1, .int .i64 (f - G), .int .i64 (q + 1 - l.rank), .int .i64 0, .int .i64 0, .bool false]) := by
      unfold Hid mirL
      rw [if_pos hk, hqq, hG]; rfl
    rw [HE.out]
    unfold Lt.val
    rw [hG]
    have w1 : IntKind.i64.wrap (f - (G : Int)) = f - G := wrapI (by omega) (by omega)
    have w2 : IntKind.i64.wrap (q + 1) = q + 1 := wrapI (by omega) (by omega)
    have w3 : IntKind.i64.wrap (q + 1 - l.rank) = q + 1 - l.rank := wrapI (by omega) (by omega)
    clear ho hq q2 hk hqq hG
    go_enter Tryd.func77, Tryd.ntmps77
    go_wp2_with fail
    go_region
    all_goals
      go_wp2_with fail
      refine bodyPost_ret (v := .agg #[.int .i64 1, .int .i64 (f - G), .int .i64 (q + 1 - l.rank), .int .i64 0, .int .i64 0, .bool false]) (by simp [results, Tryd.results77, go_sem]) rfl ⟨rfl, ?_⟩
      repeat first
        | exact Below.refl _ _
        | refine Below.drew ?_
        | refine Below.alloc ?_ (by simp) _
  · have hke : (l.kind == 1) = false := by rw [beq_eq_false_iff_ne]; exact hk
    have HE : Hid ((mirL f ls l).val = .agg #[.int .i64 l.kind, .int .i64 l.gate, .int .i64 l.rank, .int .i64 l.id, .int .i64 (-l.sign), .bool l.over]) := by
      unfold Hid mirL
      rw [if_neg hk]; rfl
    rw [HE.out]
    unfold Lt.val
    have hw : IntKind.i64.wrap (-l.sign) = -l.sign := wrapI (by omega) (by omega)
    clear ho hq hk
    go_enter Tryd.func77, Tryd.ntmps77
    go_wp2_with fail
    refine bodyPost_ret (v := .agg #[.int .i64 l.kind, .int .i64 l.gate, .int .i64 l.rank, .int .i64 l.id, .int .i64 (-l.sign), .bool l.over]) (by simp [results, Tryd.results77, go_sem]) rfl ⟨rfl, ?_⟩
    repeat first
      | exact Below.refl _ _
      | refine Below.drew ?_
      | refine Below.alloc ?_ (by simp) _

def NpRel (pos : Nat → Nat) (T : Nat) (w : World) (iv : Value) (wr : World) : Prop := ∃ t : Nat, t ≤ T ∧ iv = .int .i64 (pos t : Int) ∧ Below w.heap.size w wr

set_option maxHeartbeats 4000000 in
theorem nextPass_calls (A : Option Addr) (n c : Nat) (ls : List Lt) (step : Int) (T : Nat) (pos : Nat → Nat) (w : World) (hL : LS w A n ls) (hn : n ≤ 1000) (hst : step = 1 ∨ step = -1)
    (hps : ∀ t, t < T → ((pos (t + 1) : Nat) : Int) = (pos t : Int) + step) (hpn : ∀ t, t ≤ T → pos t < n) (hk : ∀ t l, t < T → ls[pos t]? = some l → l.kind ≠ 1) (hy : ∀ l, ls[pos T]? = some l → l.kind = 1) :
    Calls Tryd.prog 72 #[.slice A n c, .int .i64 (pos 0 : Int), .int .i64 step] w fun e w' => e = .returned (.int .i64 (pos T : Int)) ∧ Below w.heap.size w w' := by
  have HL := Lib.hid hL
  have HPS := Lib.hid hps
  have HPN := Lib.hid hpn
  have HK := Lib.hid hk
  have HY := Lib.hid hy
  have HST := Lib.hid hst
  clear hL hps hpn hk hy
  go_enter Tryd.func72, Tryd.ntmps72
  go_wp2_with fail
  go_loopw [1] (fun iv wr => NpRel pos T w iv wr) (fun iv _ => if step = 1 then n - (intOf iv).toNat else (intOf iv).toNat)
  case atStart => exact ⟨0, Nat.zero_le _, rfl, Below.refl _ _⟩
  case round =>
    obtain ⟨t, ht, rfl, hb⟩ := hrel
    have HB := Lib.hid hb
    have hpt := HPN.out t ht
    obtain ⟨b, off, l, rfl, hbl, hl, c0, c1, c2, c3, c4, c5⟩ := (HL.out.below hb).at_ hpt
    obtain ⟨p, hp⟩ : ∃ p, pos t = p := ⟨_, rfl⟩
    have HP := Lib.hid hp
    rw [hp] at hpt hl c0 c1 c2 c3 c4 c5 ⊢
    have hpi : (p : Int) < n := by omega
    have hp0 : decide ((0 : Int) ≤ (p : Int)) = true := by rw [decide_eq_true_iff]; omega
    by_cases hlt : t < T
    · have hke : (l.kind != 1) = true := by rw [bne_iff_ne]; exact HK.out t l hlt (by rw [HP.out]; exact hl)
      have hw : IntKind.i64.wrap ((p : Int) + step) = (p : Int) + step := wrapI (by rcases HST.out with h | h <;> omega) (by rcases HST.out with h | h <;> omega)
      have HN := Lib.hid (HPS.out t hlt)
      have HN2 := Lib.hid (HPN.out (t + 1) (by omega))
      clear hl hb hp
      go_wp2_with fail
      go_roundw
      case rel => exact ⟨t + 1, by omega, by rw [HN.out, HP.out], HB.out⟩
      case measure =>
        have h1 := HN.out
        have h2 := HN2.out
        rw [HP.out] at h1
        rcases HST.out with h | h
        · simp [intOf, h]; omega
        · simp [intOf, h]; omega
    · obtain rfl : t = T := by omega
      have hke : (l.kind != 1) = false := by rw [bne_eq_false_iff_eq]; exact HY.out l (by rw [HP.out]; exact hl)
      clear hl hb hp
      go_wp2_with fail
      go_ret
      exact ⟨ret_i64 (by rw [HP.out]), HB.out⟩

set_option maxHeartbeats 2000000 in
/-- .. of no letters. -/
theorem nextPass_none (A : Option Addr) (c : Nat) (i step : Int) (w : World) (hi : i < 0 ∨ 0 < i) :
    Calls Tryd.prog 72 #[.slice A 0 c, .int .i64 i, .int .i64 step] w fun e w' => e = .returned (.int .i64 i) ∧ Below w.heap.size w w' := by
  rcases hi with h | h
  · have h0 : decide ((0 : Int) ≤ i) = false := by rw [decide_eq_false_iff_not]; omega
    go_enter Tryd.func72, Tryd.ntmps72
    go_wp2_with fail
    go_loopw [1] (fun iv wr => iv = .int .i64 i ∧ wr = w) (fun _ _ => 0)
    case atStart => exact ⟨rfl, rfl⟩
    case round =>
      obtain ⟨rfl, rfl⟩ := hrel
      go_wp2_with fail
      go_ret
      exact ⟨rfl, Below.refl _ _⟩
  · have h0 : decide ((0 : Int) ≤ i) = true := by rw [decide_eq_true_iff]; omega
    have h1 : decide (i < (0 : Int)) = false := by rw [decide_eq_false_iff_not]; omega
    go_enter Tryd.func72, Tryd.ntmps72
    go_wp2_with fail
    go_loopw [1] (fun iv wr => iv = .int .i64 i ∧ wr = w) (fun _ _ => 0)
    case atStart => exact ⟨rfl, rfl⟩
    case round =>
      obtain ⟨rfl, rfl⟩ := hrel
      go_wp2_with fail
      go_ret
      exact ⟨rfl, Below.refl _ _⟩

end Go.Proofs.YtjdabkniojmacaaDoor

/-
  The walks of Swap, Mirror, Turn, Back of codes, on valid codes.
-/
namespace Go.Proofs.YtjdabkniojmacaaDoor
open Go.RowKit

/-- A code with these letters, without an error. -/
def OkL (f : Int) (n : Nat) (L : List Lt) (w : World) (e : Ending) (w' : World) : Prop :=
  ∃ gL, e = .returned (.tuple #[.agg #[.int .i64 f, .slice (some ⟨gL, 0, none⟩) n n], .int .i64 0]) ∧ OwnL w' w.heap.size (.slice (some ⟨gL, 0, none⟩) n n) L ∧ Below w.heap.size w w'
theorem plain_sign {f : Int} {l : Lt} (h : plainL f l) : -1000 ≤ l.sign ∧ l.sign ≤ 1000 := by
  unfold plainL at h
  rcases h with h | h <;> omega

theorem first_true (p : Nat → Bool) : ∀ n, (∃ t, t < n ∧ p t = true) → ∃ T, T < n ∧ p T = true ∧ ∀ t, t < T → p t = false
  | 0, h => by obtain ⟨t, ht, _⟩ := h; omega
  | n + 1, h => by
    by_cases h2 : ∃ t, t < n ∧ p t = true
    · obtain ⟨T, h3, h4, h5⟩ := first_true p n h2
      exact ⟨T, by omega, h4, h5⟩
    · obtain ⟨t, ht, hp⟩ := h
      have e : t = n := by
        rcases Nat.lt_or_ge t n with q | q
        · exact absurd ⟨t, q, hp⟩ h2
        · omega
      subst e
      exact ⟨t, by omega, hp, fun s hs => by
        cases hq : p s with
        | false => rfl
        | true => exact absurd ⟨s, hs, hq⟩ h2⟩

set_option maxHeartbeats 4000000 in
theorem swap_calls (f : Int) (A : Option Addr) (n c : Nat) (ls : List Lt) (w : World) (hL : LS w A n ls) (hn : n ≤ 1000) (hp : ∀ l, l ∈ ls → plainL f l) (hC : ChkAt f A n c 0 w) :
    Calls Tryd.prog 36 #[.agg #[.int .i64 f, .slice A n c]] w (OkL f n (ls.map swapL) w) := by
  have HCK := Lib.hid hC
  have HLN : Hid ((ls.map swapL).length = n) := by unfold Hid; rw [List.length_map]; exact hL.1
  have HEA : Hid (∀ W, Below w.heap.size w W → Calls Tryd.prog 73 #[.agg #[.int .i64 f, .slice A n c], .func (.func 74) #[] #[]] W (EachPost f (ls.map swapL) W)) :=
    fun W hW => each_swap f A n c ls W (hL.below hW) hn swapL (fun l W' hl _ => swap1_calls l W' (plain_sign (hp l hl)))
  clear hL hC hp
  go_enter Tryd.func36, Tryd.ntmps36
  go_wp2_with fail
  obtain ⟨W0, hW0⟩ : ∃ W0, W0 = (w.alloc (.cells #[.int .i64 f, .slice A n c] 24)).alloc (.cells #[.int .i64 0, .slice none 0 0] 24) := ⟨_, rfl⟩
  have HF0 := Lib.hid (two_mem w _ _ W0 hW0)
  rw [← hW0]
  clear hW0
  go_wp2_with (first
    | (go_at_call 39; refine (HCK.out _ HF0.out.2.2.2).mono ?_; rintro e w1 ⟨rfl, hb1⟩; have HM1 := Lib.hid (two_next HF0.out hb1); have a0 := Lib.cell_of_heap HM1.out.1 0; have a1 := Lib.cell_of_heap HM1.out.1 1; clear hb1)
    | (go_at_call 73; refine (HEA.out _ HM1.out.2.2.2).mono ?_; rintro e w2 ⟨gL, rfl, ho, hb2⟩; rw [HLN.out] at ho ⊢; have HO := Lib.hid (And.intro ho hb2); have HM2 := Lib.hid (two_next HM1.out hb2); have r0 := Lib.cell_of_heap HM2.out.2.1 0; have r1 := Lib.cell_of_heap HM2.out.2.1 1; have rf : ∀ x, w2.frozen? ⟨w.heap.size + 1, x, none⟩ = false := (by intro x; have h1 := HM2.out.2.1; simp [World.frozen?, h1]); clear ho hb2))
  obtain ⟨X, hX⟩ : ∃ X, X = (w2.setCell ⟨w.heap.size + 1, 0, none⟩ (.int .i64 f)).setCell ⟨w.heap.size + 1, 1, none⟩ (.slice (some ⟨gL, 0, none⟩) n n) := ⟨_, rfl⟩
  obtain ⟨k0, k1, hXB, _, hXK⟩ := res_end HM2.out.2.1 (by omega) HM2.out.2.2.2 _ _ hX
  rw [← hX]
  have hgL := (World.ownsRow.lt HO.out.1 gL rfl).1
  have hw1 := HM1.out.2.2.1
  refine bodyPost_ret (v := .tuple #[.agg #[.int .i64 f, .slice (some ⟨gL, 0, none⟩) n n], .int .i64 0]) (by simp [results, Tryd.results36, go_sem, k0, k1]) rfl ⟨gL, rfl, ?_, hXB⟩
  exact own_base' (own_kept2' HO.out.1 (fun g e => hXK g (by have e' : gL = g := (by simpa [Value.ownBlock] using e); omega))) (by omega)

set_option maxHeartbeats 4000000 in
theorem mirror_calls (fn : Nat) (A : Option Addr) (n c : Nat) (ls : List Lt) (w : World) (hL : LS w A n ls) (hn : n ≤ 1000) (hfn : fn ≤ 40) (hp : ∀ l, l ∈ ls → plainL (fn : Int) l) (hrk : ∀ l, l ∈ ls → l.kind = 1 → 0 ≤ l.rank ∧ l.rank ≤ 1000000) (hC : ChkAt (fn : Int) A n c 0 w) :
    Calls Tryd.prog 37 #[.agg #[.int .i64 (fn : Int), .slice A n c]] w (OkL (fn : Int) n (ls.map (mirL (fn : Int) ls)) w) := by
  have HCK := Lib.hid hC
  have HLN : Hid ((ls.map (mirL (fn : Int) ls)).length = n) := by unfold Hid; rw [List.length_map]; exact hL.1
  have hlen := hL.1
  have HGA : Hid (∀ W, Below w.heap.size w W → Calls Tryd.prog 76 #[.agg #[.int .i64 (fn : Int), .slice A n c]] W fun e w' => ∃ g, e = .returned (.slice (some ⟨g, 0, none⟩) (fn + 1) (fn + 1)) ∧ W.heap.size ≤ g ∧ OwnV w' g 3 (.slice (some ⟨g, 0, none⟩) (fn + 1) (fn + 1)) (gatesL (fn + 1) ls n) ∧ Below W.heap.size W w') := by
    intro W hW
    exact gates_calls fn A n c ls W (hL.below hW) (by omega) hfn (fun l hl hk1 => by
      rcases hp l hl with h | h
      · exact h.2.2.2.2
      · exact absurd (hk1.symm.trans h.1) (by decide))
  have HFE : Hid (∀ (W : World) (pc g : Nat), Below w.heap.size w W → W.heap[w.heap.size]? = some (.cells #[.int .i64 (fn : Int), .slice A n c] 24 (0, 0)) → W.heap[pc]? = some (.cells #[.slice (some ⟨g, 0, none⟩) (fn + 1) (fn + 1)] 35 (0, 0)) → OwnV W g 3 (.slice (some ⟨g, 0, none⟩) (fn + 1) (fn + 1)) (gatesL (fn + 1) ls n) →
      Calls Tryd.prog 73 #[.agg #[.int .i64 (fn : Int), .slice A n c], .func (.func 77) #[] #[.pointer (some ⟨w.heap.size, 0, none⟩), .pointer (some ⟨pc, 0, none⟩)]] W (EachPost (fn : Int) (ls.map (mirL (fn : Int) ls)) W)) := by
    intro W pc g hW c1 c2 ho
    have l1 : w.heap.size < W.heap.size := by
      rcases Nat.lt_or_ge w.heap.size W.heap.size with q | q
      · exact q
      · rw [Array.getElem?_eq_none q] at c1; cases c1
    have l2 : pc < W.heap.size := by
      rcases Nat.lt_or_ge pc W.heap.size with q | q
      · exact q
      · rw [Array.getElem?_eq_none q] at c2; cases c2
    refine each_mirror (fn : Int) A n c ls W (hL.below hW) hn (mirL (fn : Int) ls) _ _ fun l W' hl hW' => ?_
    refine mirror1_calls (fn : Int) ls w.heap.size pc g (fn + 1) g _ l W' (ho.below hW') (by omega) (by omega) (fun hk1 => ?_) (plain_sign (hp l hl)) (Nat.lt_of_lt_of_le l1 hW'.size) (Nat.lt_of_lt_of_le l2 hW'.size)
      ((hW'.cell (p := ⟨w.heap.size, 0, none⟩) l1).trans (Lib.cell_of_heap c1 0)) ((hW'.cell (p := ⟨pc, 0, none⟩) l2).trans (Lib.cell_of_heap c2 0))
    have hgb : 0 ≤ l.gate ∧ l.gate ≤ (fn : Int) := by
      rcases hp l hl with h | h
      · exact h.2.2.2.2
      · exact absurd (hk1.symm.trans h.1) (by decide)
    have e2 := cntB_take_le (inGate l.gate) ls ls.length
    rw [List.take_of_length_le (Nat.le_refl _)] at e2
    refine ⟨hgb.1, by omega, by omega, ?_, hrk l hl hk1, by omega⟩
    unfold gatesL
    have e1 : ((l.gate.toNat : Nat) : Int) = l.gate := by omega
    rw [List.getElem?_map, List.getElem?_range (by omega), Option.map_some, e1, List.take_of_length_le (by omega)]
  have hmf : ∀ (fn : Fn) (first cap : Array Value) (w : World), (Instr.makeFunc fn first cap).run Tryd.prog w = .ok (.func fn first cap) w := fun _ _ _ _ => rfl
  clear hL hC hp hrk hlen
  go_enter Tryd.func37, Tryd.ntmps37
  go_wp2_with fail
  obtain ⟨W0, hW0⟩ : ∃ W0, W0 = (w.alloc (.cells #[.int .i64 (fn : Int), .slice A n c] 24)).alloc (.cells #[.int .i64 0, .slice none 0 0] 24) := ⟨_, rfl⟩
  have HF0 := Lib.hid (two_mem w _ _ W0 hW0)
  rw [← hW0]
  clear hW0
  go_wp2_with (first
    | (go_at_call 39; refine (HCK.out _ HF0.out.2.2.2).mono ?_; rintro e w1 ⟨rfl, hb1⟩; have HM1 := Lib.hid (two_next HF0.out hb1); have a0 := Lib.cell_of_heap HM1.out.1 0; have a1 := Lib.cell_of_heap HM1.out.1 1; clear hb1)
    | (go_at_call 76; refine (HGA.out _ HM1.out.2.2.2).mono ?_; rintro e w3 ⟨g, rfl, hg1, hg2, hb3⟩; have HM3 := Lib.hid (two_next HM1.out hb3); have HMB := Lib.hid (two_next HM3.out ((Below.refl w3.heap.size w3).alloc (Nat.le_refl _) (.cells #[.slice (some ⟨g, 0, none⟩) (fn + 1) (fn + 1)] 35))); have HGB := Lib.hid (hg2.below ((Below.refl w3.heap.size w3).alloc (Nat.le_refl _) (.cells #[.slice (some ⟨g, 0, none⟩) (fn + 1) (fn + 1)] 35))); clear a0 a1; have a0 := Lib.cell_of_heap HMB.out.1 0; have a1 := Lib.cell_of_heap HMB.out.1 1; clear hg1 hg2 hb3)
    | (go_at_call 73; refine (HFE.out _ w3.heap.size g HMB.out.2.2.2 HMB.out.1 (heap_alloc_new w3 _) HGB.out).mono ?_; rintro e w2 ⟨gL, rfl, ho, hb2⟩; rw [HLN.out] at ho ⊢; have HO := Lib.hid (And.intro ho hb2); have HM2 := Lib.hid (two_next HMB.out hb2); have r0 := Lib.cell_of_heap HM2.out.2.1 0; have r1 := Lib.cell_of_heap HM2.out.2.1 1; have rf : ∀ x, w2.frozen? ⟨w.heap.size + 1, x, none⟩ = false := (by intro x; have h1 := HM2.out.2.1; simp [World.frozen?, h1]); clear ho hb2))
  obtain ⟨X, hX⟩ : ∃ X, X = (w2.setCell ⟨w.heap.size + 1, 0, none⟩ (.int .i64 (fn : Int))).setCell ⟨w.heap.size + 1, 1, none⟩ (.slice (some ⟨gL, 0, none⟩) n n) := ⟨_, rfl⟩
  obtain ⟨k0, k1, hXB, _, hXK⟩ := res_end HM2.out.2.1 (by omega) HM2.out.2.2.2 _ _ hX
  rw [← hX]
  have hgL := (World.ownsRow.lt HO.out.1 gL rfl).1
  have hw1 := HMB.out.2.2.1
  refine bodyPost_ret (v := .tuple #[.agg #[.int .i64 (fn : Int), .slice (some ⟨gL, 0, none⟩) n n], .int .i64 0]) (by simp [results, Tryd.results37, go_sem, k0, k1]) rfl ⟨gL, rfl, ?_, hXB⟩
  exact own_base' (own_kept2' HO.out.1 (fun g e => hXK g (by have e' : gL = g := (by simpa [Value.ownBlock] using e); omega))) (by omega)

/-- The first letter of the code that is traveled backwards, and of the turned one. -/
def LastP (ls : List Lt) (r : Int) : Prop := 0 < ls.length → ∃ R : Nat, r = (R : Int) ∧ R < ls.length ∧ (∀ l, ls[R]? = some l → l.kind = 1) ∧ ∀ k l, R < k → ls[k]? = some l → l.kind ≠ 1
def NextP (ls : List Lt) (r : Int) : Prop := 0 < ls.length → ∃ R : Nat, r = (R : Int) ∧ 1 ≤ R ∧ R < ls.length ∧ (∀ l, ls[R]? = some l → l.kind = 1) ∧ ∀ k l, 1 ≤ k → k < R → ls[k]? = some l → l.kind ≠ 1
theorem closed_first {ls : List Lt} (h : closedB ls = true) (h0 : 0 < ls.length) : ∃ l, ls[0]? = some l ∧ l.kind = 1 ∧ cntB isPass ls % 2 = 0 := by
  cases ls with
  | nil => simp at h0
  | cons a r =>
    unfold closedB at h
    simp [isPass] at h
    refine ⟨a, rfl, h.1, ?_⟩
    have := h.2
    simpa [isPass] using this

/-- nextPass from the last letter backwards. -/
theorem back_ix (A : Option Addr) (n c : Nat) (ls : List Lt) (w : World) (hL : LS w A n ls) (hn : n ≤ 1000) (hc : closedB ls = true) :
    ∃ r : Int, LastP ls r ∧ (0 < n → 0 ≤ r ∧ r < (n : Int)) ∧ ∀ W, Below w.heap.size w W → Calls Tryd.prog 72 #[.slice A n c, .int .i64 ((n : Int) - 1), .int .i64 (-1)] W fun e w' => e = .returned (.int .i64 r) ∧ Below W.heap.size W w' := by
  have hlen := hL.1
  by_cases h0 : n = 0
  · subst h0
    refine ⟨-1, fun h => by omega, fun h => by omega, fun W _ => ?_⟩
    exact nextPass_none A c (-1) (-1) W (.inl (by decide))
  · obtain ⟨l0, hl0, hk0, _⟩ := closed_first hc (by omega)
    obtain ⟨T, hT, hpT, hbT⟩ := first_true (fun t => match ls[n - 1 - t]? with | some l => isPass l | none => false) n ⟨n - 1, by omega, by simp [hl0, isPass, hk0]⟩
    refine ⟨((n - 1 - T : Nat) : Int), fun _ => ⟨n - 1 - T, rfl, by omega, fun l hl => ?_, fun k l hk hl => ?_⟩, fun _ => by omega, fun W hW => ?_⟩
    · simp only [hl] at hpT
      simpa [isPass] using hpT
    · have hkl := lt_len hl
      have h1 := hbT (n - 1 - k) (by omega)
      rw [show n - 1 - (n - 1 - k) = k by omega, hl] at h1
      simpa [isPass] using h1
    · have h := nextPass_calls A n c ls (-1) T (fun t => n - 1 - t) W (hL.below hW) hn (.inr rfl) (fun t ht => by omega) (fun t ht => by omega) (fun t l ht hl => by
        have h1 := hbT t ht
        rw [hl] at h1
        simpa [isPass] using h1) (fun l hl => by
        simp only [hl] at hpT
        simpa [isPass] using hpT)
      have e : ((n - 1 - 0 : Nat) : Int) = (n : Int) - 1 := by omega
      rw [e] at h
      exact h
/-- nextPass from the second letter on. -/
theorem turn_ix (A : Option Addr) (n c : Nat) (ls : List Lt) (w : World) (hL : LS w A n ls) (hn : n ≤ 1000) (hc : closedB ls = true) :
    ∃ r : Int, NextP ls r ∧ (0 < n → 0 ≤ r ∧ r < (n : Int)) ∧ ∀ W, Below w.heap.size w W → Calls Tryd.prog 72 #[.slice A n c, .int .i64 1, .int .i64 1] W fun e w' => e = .returned (.int .i64 r) ∧ Below W.heap.size W w' := by
  have hlen := hL.1
  by_cases h0 : n = 0
  · subst h0
    refine ⟨1, fun h => by omega, fun h => by omega, fun W _ => ?_⟩
    exact nextPass_none A c 1 1 W (.inr (by decide))
  · obtain ⟨l0, hl0, hk0, hev⟩ := closed_first hc (by omega)
    have hsec : ∃ t, t < n - 1 ∧ (match ls[1 + t]? with | some l => isPass l | none => false) = true := by
      apply Classical.byContradiction
      intro hno
      have hone : cntB isPass ls = 1 := by
        cases ls with
        | nil => simp at hlen; omega
        | cons a r =>
          injection hl0 with hl0
          subst hl0
          have hr : r.filter isPass = [] := by
            rw [List.filter_eq_nil_iff]
            intro x hx hp
            obtain ⟨i, hi⟩ := List.getElem?_of_mem hx
            have hil : i < r.length := by
              rcases Nat.lt_or_ge i r.length with q | q
              · exact q
              · rw [List.getElem?_eq_none q] at hi; cases hi
            refine hno ⟨i, by simp at hlen; omega, ?_⟩
            rw [Nat.add_comm 1 i, List.getElem?_cons_succ, hi]
            exact hp
          unfold cntB
          rw [List.filter_cons, if_pos (by simp [isPass, hk0]), hr]
          rfl
      omega
    obtain ⟨T, hT, hpT, hbT⟩ := first_true (fun t => match ls[1 + t]? with | some l => isPass l | none => false) (n - 1) hsec
    refine ⟨((1 + T : Nat) : Int), fun _ => ⟨1 + T, rfl, by omega, by omega, fun l hl => ?_, fun k l hk1 hk hl => ?_⟩, fun _ => by omega, fun W hW => ?_⟩
    · simp only [hl] at hpT
      simpa [isPass] using hpT
    · have h1 := hbT (k - 1) (by omega)
      rw [show 1 + (k - 1) = k by omega, hl] at h1
      simpa [isPass] using h1
    · exact nextPass_calls A n c ls 1 T (fun t => 1 + t) W (hL.below hW) hn (.inl rfl) (fun t ht => by omega) (fun t ht => by omega) (fun t l ht hl => by
        have h1 := hbT t ht
        rw [hl] at h1
        simpa [isPass] using h1) (fun l hl => by
        simp only [hl] at hpT
        simpa [isPass] using hpT)

/-- What Back's last statement reads. -/
def TbS (P : Nat) (f : Int) (v : Value) (w w' : World) : Prop := w'.cell? ⟨P, 0, none⟩ = some (.int .i64 f) ∧ w'.cell? ⟨P, 1, none⟩ = some v ∧ w'.heap[P]? = some (.cells #[.int .i64 f, v] 24 (0, 0)) ∧ Below w.heap.size w w'
theorem TbS.of {P : Nat} {f : Int} {v : Value} {w w' : World} (h : w'.heap[P]? = some (.cells #[.int .i64 f, v] 24 (0, 0))) (hb : Below w.heap.size w w') : TbS P f v w w' := ⟨Lib.cell_of_heap h 0, Lib.cell_of_heap h 1, h, hb⟩

set_option maxHeartbeats 4000000 in
theorem back_calls (f : Int) (A : Option Addr) (n c : Nat) (ls : List Lt) (w : World) (hL : LS w A n ls) (hn : n ≤ 1000) (hc : closedB ls = true) (hC : ChkAt f A n c 0 w) :
    Calls Tryd.prog 31 #[.agg #[.int .i64 f, .slice A n c]] w fun e w' => ∃ r, LastP ls r ∧ OkL f n (followL ls r (-1)) w e w' := by
  have HCK := Lib.hid hC
  obtain ⟨r, hr, hrb, hnp⟩ := back_ix A n c ls w hL hn hc
  have HR := Lib.hid hr
  have HNP := Lib.hid hnp
  have HLN : Hid ((followL ls r (-1)).length = n) := by unfold Hid; rw [followL_len]; exact hL.1
  have HFL : Hid (∀ W, Below w.heap.size w W → Calls Tryd.prog 67 #[.agg #[.int .i64 f, .slice A n c], .int .i64 r, .int .i64 (-1)] W (EachPost f (followL ls r (-1)) W)) :=
    fun W hW => follow_calls f A n c ls r (-1) W (hL.below hW) hn hrb (.inr rfl)
  have hw : IntKind.i64.wrap ((n : Int) - 1) = (n : Int) - 1 := wrapI (by omega) (by omega)
  clear hL hC hr hnp hrb
  go_enter Tryd.func31, Tryd.ntmps31
  go_wp2_with fail
  obtain ⟨W0, hW0⟩ : ∃ W0, W0 = (w.alloc (.cells #[.int .i64 f, .slice A n c] 24)).alloc (.cells #[.int .i64 0, .slice none 0 0] 24) := ⟨_, rfl⟩
  have HF0 := Lib.hid (two_mem w _ _ W0 hW0)
  rw [← hW0]
  clear hW0
  refine (HCK.out _ HF0.out.2.2.2).mono ?_
  rintro e w1 ⟨rfl, hb1⟩
  have HM1 := Lib.hid (two_next HF0.out hb1)
  obtain ⟨P, hP⟩ : ∃ P, P = w.heap.size := ⟨_, rfl⟩
  obtain ⟨r1, hr1⟩ : ∃ r1, r1 = w.heap.size + 1 := ⟨_, rfl⟩
  have hPW : w1.heap[P]? = some (.cells #[.int .i64 f, .slice A n c] 24 (0, 0)) := by rw [hP]; exact HM1.out.1
  have hRW : w1.heap[r1]? = some (.cells #[.int .i64 0, .slice none 0 0] 24 (0, 0)) := by rw [hr1]; exact HM1.out.2.1
  have hPl : P < w1.heap.size := by have := HM1.out.2.2.1; omega
  have hrl : r1 < w1.heap.size := by have := HM1.out.2.2.1; omega
  have hwr : w.heap.size ≤ r1 := by omega
  have hPr : P ≠ r1 := by omega
  rw [← hr1, ← hP]
  have HBW := Lib.hid HM1.out.2.2.2
  have HPW := Lib.hid hPW
  have HRW := Lib.hid hRW
  clear hb1 hP hr1 HM1 HF0 hPW hRW
  go_wp2_with fail
  go_region_held3 (fun w' => w'.cell? ⟨P, 0, none⟩ = some (.int .i64 f) ∧ w'.cell? ⟨P, 1, none⟩ = some (.slice A n c) ∧ w'.heap[P]? = some (.cells #[.int .i64 f, .slice A n c] 24 (0, 0)) ∧ Below w.heap.size w w')
    (first
      | exact TbS.of HPW.out HBW.out.drew
      | exact TbS.of hP2 hB2
      | exact TbS.of hP3 hB3
      | exact TbS.of ((Below.heap_setCell _ _ _ P hPr).trans ((Below.heap_setCell _ _ _ P hPr).trans hP3)) ((hB3.setCell (p := ⟨r1, 0, none⟩) hwr _).setCell (p := ⟨r1, 1, none⟩) hwr _))
    (first
      | (go_at_call 72; (with_reducible refine (HNP.out _ HBW.out.drew).mono ?_); rintro e w2 ⟨rfl, hb⟩; have hb' : Below w1.heap.size w1 w2 := ((Below.refl w1.heap.size w1).drew).trans hb; have hP2 := (hb'.block P hPl).trans HPW.out; have hR2 := (hb'.block r1 hrl).trans HRW.out; have hB2 := HBW.out.trans (hb'.mono HBW.out.size); have hs2 := hb'.size; clear hb)
      | (go_at_call 67; (with_reducible refine (HFL.out _ hB2).mono ?_); rintro e w3 ⟨gL, rfl, ho, hb⟩; rw [HLN.out] at ho ⊢; have HO := Lib.hid ho; have hP3 := (hb.block P (by omega)).trans hP2; have hR3 := (hb.block r1 (by omega)).trans hR2; have hB3 := hB2.trans (hb.mono hB2.size); have hs3 := hb.size; have y0 := Lib.cell_of_heap hR3 0; have y1 := Lib.cell_of_heap hR3 1; have yf : ∀ x, w3.frozen? ⟨r1, x, none⟩ = false := (by intro x; simp [World.frozen?, hR3]); clear hb))
  go_wp2_with fail
  obtain ⟨X, hX⟩ : ∃ X, X = (w3.setCell ⟨r1, 0, none⟩ (.int .i64 f)).setCell ⟨r1, 1, none⟩ (.slice (some ⟨gL, 0, none⟩) n n) := ⟨_, rfl⟩
  obtain ⟨k0, k1, hXB, _, hXK⟩ := res_end hR3 hwr hB3 _ _ hX
  rw [← hX]
  have hgL := (World.ownsRow.lt HO.out gL rfl).1
  refine bodyPost_ret (v := .tuple #[.agg #[.int .i64 f, .slice (some ⟨gL, 0, none⟩) n n], .int .i64 0]) (by simp [results, Tryd.results31, go_sem, k0, k1]) rfl ⟨r, HR.out, gL, rfl, ?_, hXB⟩
  have hw2 := hB2.size
  exact own_base' (own_kept2' HO.out (fun g e => hXK g (by have e' : gL = g := (by simpa [Value.ownBlock] using e); omega))) (by omega)

def TcS (P B : Nat) (f : Int) (vc v : Value) (w w' : World) : Prop := w'.cell? ⟨P, 1, none⟩ = some vc ∧ w'.cell? ⟨B, 0, none⟩ = some (.int .i64 f) ∧ w'.cell? ⟨B, 1, none⟩ = some v ∧ w'.heap[P]? = some (.cells #[.int .i64 f, vc] 24 (0, 0)) ∧ w'.heap[B]? = some (.cells #[.int .i64 f, v] 24 (0, 0)) ∧ Below w.heap.size w w'
theorem TcS.of {P B : Nat} {f : Int} {vc v : Value} {w w' : World} (h : w'.heap[P]? = some (.cells #[.int .i64 f, vc] 24 (0, 0))) (h2 : w'.heap[B]? = some (.cells #[.int .i64 f, v] 24 (0, 0))) (hb : Below w.heap.size w w') : TcS P B f vc v w w' := ⟨Lib.cell_of_heap h 1, Lib.cell_of_heap h2 0, Lib.cell_of_heap h2 1, h, h2, hb⟩

set_option maxHeartbeats 4000000 in
theorem turn_calls' (f : Int) (A : Option Addr) (n c : Nat) (ls : List Lt) (w : World) (hL : LS w A n ls) (hn : n ≤ 1000) (hc : closedB ls = true) (hC : ChkAt f A n c 0 w) :
    Calls Tryd.prog 38 #[.agg #[.int .i64 f, .slice A n c]] w fun e w' => ∃ r, NextP ls r ∧ OkL f n (followL (ls.map otherL) r 1) w e w' := by
  have HCK := Lib.hid hC
  obtain ⟨r, hr, hrb, hnp⟩ := turn_ix A n c ls w hL hn hc
  have HR := Lib.hid hr
  have HNP := Lib.hid hnp
  have HML : Hid ((ls.map otherL).length = n) := by unfold Hid; rw [List.length_map]; exact hL.1
  have HLN : Hid ((followL (ls.map otherL) r 1).length = n) := by unfold Hid; rw [followL_len]; exact HML.out
  have HFL : Hid (∀ W gL, LS W (some ⟨gL, 0, none⟩) n (ls.map otherL) → Calls Tryd.prog 67 #[.agg #[.int .i64 f, .slice (some ⟨gL, 0, none⟩) n n], .int .i64 r, .int .i64 1] W (EachPost f (followL (ls.map otherL) r 1) W)) :=
    fun W gL h => follow_calls f _ n n _ r 1 W h hn hrb (.inl rfl)
  have HEA : Hid (∀ W, Below w.heap.size w W → Calls Tryd.prog 73 #[.agg #[.int .i64 f, .slice A n c], .func (.func 75) #[] #[]] W (EachPost f (ls.map otherL) W)) :=
    fun W hW => each_other f A n c ls W (hL.below hW) hn otherL (fun l W' _ _ => otherStrand_calls l W')
  clear hL hC hr hnp hrb
  go_enter Tryd.func38, Tryd.ntmps38
  go_wp2_with fail
  obtain ⟨W0, hW0⟩ : ∃ W0, W0 = (w.alloc (.cells #[.int .i64 f, .slice A n c] 24)).alloc (.cells #[.int .i64 0, .slice none 0 0] 24) := ⟨_, rfl⟩
  have HF0 := Lib.hid (two_mem w _ _ W0 hW0)
  rw [← hW0]
  clear hW0
  refine (HCK.out _ HF0.out.2.2.2).mono ?_
  rintro e w0 ⟨rfl, hb1⟩
  have HM0 := Lib.hid (two_next HF0.out hb1)
  have a0 := Lib.cell_of_heap HM0.out.1 0
  have a1 := Lib.cell_of_heap HM0.out.1 1
  clear hb1
  go_wp2_with fail
  refine (HEA.out _ HM0.out.2.2.2).mono ?_
  rintro e we ⟨gT, rfl, hoT, hbe⟩
  rw [HML.out] at hoT ⊢
  have HME := Lib.hid (two_next HM0.out hbe)
  have HT := Lib.hid (OwnL.lsN hoT HML.out)
  clear hbe hoT a0 a1
  go_wp2_with fail
  obtain ⟨w1, hw1⟩ : ∃ w1, w1 = we.alloc (.cells #[.int .i64 f, .slice (some ⟨gT, 0, none⟩) n n] 24) := ⟨_, rfl⟩
  have hba : Below we.heap.size we w1 := by rw [hw1]; exact (Below.refl _ _).alloc (Nat.le_refl _) _
  have HM1 := Lib.hid (two_next HME.out hba)
  have HT1 := Lib.hid (HT.out.below hba)
  obtain ⟨P, hP⟩ : ∃ P, P = w.heap.size := ⟨_, rfl⟩
  obtain ⟨r1, hr1⟩ : ∃ r1, r1 = w.heap.size + 1 := ⟨_, rfl⟩
  obtain ⟨B, hB⟩ : ∃ B, B = we.heap.size := ⟨_, rfl⟩
  have hBW : w1.heap[B]? = some (.cells #[.int .i64 f, .slice (some ⟨gT, 0, none⟩) n n] 24 (0, 0)) := by rw [hw1, hB]; exact heap_alloc_new we _
  have hPW : w1.heap[P]? = some (.cells #[.int .i64 f, .slice A n c] 24 (0, 0)) := by rw [hP]; exact HM1.out.1
  have hRW : w1.heap[r1]? = some (.cells #[.int .i64 0, .slice none 0 0] 24 (0, 0)) := by rw [hr1]; exact HM1.out.2.1
  have hPl : P < w1.heap.size := by have := HM1.out.2.2.1; omega
  have hrl : r1 < w1.heap.size := by have := HM1.out.2.2.1; omega
  have hBl : B < w1.heap.size := by rw [hw1, hB]; simp
  have hwr : w.heap.size ≤ r1 := by omega
  have hPr : P ≠ r1 := by omega
  have hBr : B ≠ r1 := by have := HME.out.2.2.1; omega
  rw [← hr1, ← hP, ← hw1, ← hB]
  have HBW := Lib.hid HM1.out.2.2.2
  have HPW := Lib.hid hPW
  have HRW := Lib.hid hRW
  have HBB := Lib.hid hBW
  clear hba hw1 hB hP hr1 HM1 HM0 HME HF0 HT hPW hRW hBW
  go_wp2_with fail
  go_region_held3 (fun w' => w'.cell? ⟨P, 1, none⟩ = some (.slice A n c) ∧ w'.cell? ⟨B, 0, none⟩ = some (.int .i64 f) ∧ w'.cell? ⟨B, 1, none⟩ = some (.slice (some ⟨gT, 0, none⟩) n n) ∧ w'.heap[P]? = some (.cells #[.int .i64 f, .slice A n c] 24 (0, 0)) ∧ w'.heap[B]? = some (.cells #[.int .i64 f, .slice (some ⟨gT, 0, none⟩) n n] 24 (0, 0)) ∧ Below w.heap.size w w')
    (first
      | exact TcS.of HPW.out HBB.out HBW.out.drew
      | exact TcS.of hP2 hT2 hB2
      | exact TcS.of hP3 hT3 hB3
      | exact TcS.of ((Below.heap_setCell _ _ _ P hPr).trans ((Below.heap_setCell _ _ _ P hPr).trans hP3)) ((Below.heap_setCell _ _ _ B hBr).trans ((Below.heap_setCell _ _ _ B hBr).trans hT3)) ((hB3.setCell (p := ⟨r1, 0, none⟩) hwr _).setCell (p := ⟨r1, 1, none⟩) hwr _))
    (first
      | (go_at_call 72; (with_reducible refine (HNP.out _ HBW.out.drew).mono ?_); rintro e w2 ⟨rfl, hb⟩; have hb' : Below w1.heap.size w1 w2 := ((Below.refl w1.heap.size w1).drew).trans hb; have hP2 := (hb'.block P hPl).trans HPW.out; have hT2 := (hb'.block B hBl).trans HBB.out; have hR2 := (hb'.block r1 hrl).trans HRW.out; have hB2 := HBW.out.trans (hb'.mono HBW.out.size); have hs2 := hb'.size; have hLT := HT1.out.below hb'; clear hb)
      | (go_at_call 67; (with_reducible refine (HFL.out _ _ hLT).mono ?_); rintro e w3 ⟨gL, rfl, ho, hb⟩; rw [HLN.out] at ho ⊢; have HO := Lib.hid ho; have hP3 := (hb.block P (by omega)).trans hP2; have hT3 := (hb.block B (by omega)).trans hT2; have hR3 := (hb.block r1 (by omega)).trans hR2; have hB3 := hB2.trans (hb.mono hB2.size); have hs3 := hb.size; have y0 := Lib.cell_of_heap hR3 0; have y1 := Lib.cell_of_heap hR3 1; have yf : ∀ x, w3.frozen? ⟨r1, x, none⟩ = false := (by intro x; simp [World.frozen?, hR3]); clear hb))
  go_wp2_with fail
  obtain ⟨X, hX⟩ : ∃ X, X = (w3.setCell ⟨r1, 0, none⟩ (.int .i64 f)).setCell ⟨r1, 1, none⟩ (.slice (some ⟨gL, 0, none⟩) n n) := ⟨_, rfl⟩
  obtain ⟨k0, k1, hXB, _, hXK⟩ := res_end hR3 hwr hB3 _ _ hX
  rw [← hX]
  have hgL := (World.ownsRow.lt HO.out gL rfl).1
  refine bodyPost_ret (v := .tuple #[.agg #[.int .i64 f, .slice (some ⟨gL, 0, none⟩) n n], .int .i64 0]) (by simp [results, Tryd.results38, go_sem, k0, k1]) rfl ⟨r, HR.out, gL, rfl, ?_, hXB⟩
  have hw2 := hB2.size
  exact own_base' (own_kept2' HO.out (fun g e => hXK g (by have e' : gL = g := (by simpa [Value.ownBlock] using e); omega))) (by omega)

end Go.Proofs.YtjdabkniojmacaaDoor
