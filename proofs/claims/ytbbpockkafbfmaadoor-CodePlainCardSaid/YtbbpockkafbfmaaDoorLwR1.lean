/-
  line's order, onlyRanks, and the words drawn by positions, beside the texts of code (for CodePlain).
-/
import Derived.Test.YtbbpockkafbfmaaDoorLwA
import Derived.Deep.LoopGhost
namespace Go.Proofs.YtbbpockkafbfmaaDoor.Lw
open Go.RowKit
set_option maxHeartbeats 400000 in
theorem reduced_calls (A : Option Addr) (n cap : Nat) (xs : List Int) (w : World) (h : SL w A n xs) (hn : n ≤ maxLen) :
    Calls Tryd.prog 56 #[.slice A n cap] w fun e w' => e = .returned (.bool (reducedB xs)) ∧ w = w' := by
  have hl := Lib.hid h.1
  have H := Lib.hid (valid_calls 40 A n cap xs w h hn)
  cases hv : validB 40 xs with
  | false =>
    have HV := Lib.hid hv
    clear hv
    go_enter Tryd.func56, Tryd.ntmps56
    go_wp2_with (go_at_call 90; refine H.out.mono ?_; rw [HV.out]; rintro e w' ⟨rfl, rfl⟩)
    go_ret
    exact ⟨ret_bool (by unfold reducedB; rw [HV.out]; rfl), rfl⟩
  | true =>
    have HV := Lib.hid hv
    have h4 : n ≤ 400 := by
      have : xs.length ≤ 400 := by unfold validB at hv; simp at hv; omega
      rw [hl.out] at this; exact this
    clear hv
    go_enter Tryd.func56, Tryd.ntmps56
    go_wp2_with (go_at_call 90; refine H.out.mono ?_; rw [HV.out]; rintro e w' ⟨rfl, rfl⟩)
    go_loop [10] (fun i => ∃ j : Nat, j ≤ n ∧ i = .int .i64 j ∧ (List.range j).all (fun i => !(xs.getD i 0 == xs.getD ((i + 1) % xs.length) 0)) = true) (fun i => n - (intOf i).toNat)
    case atStart => exact ⟨0, Nat.zero_le _, rfl, by simp⟩
    case round =>
      obtain ⟨j, hj, rfl, hall⟩ := hrel
      have HALL := Lib.hid hall
      clear hall
      by_cases hlt : j < n
      · obtain ⟨b, off, x, rfl, hb, hx, hc⟩ := h.at_ hlt
        have hmlt : (j + 1) % n < n := Nat.mod_lt _ (by omega)
        obtain ⟨b', off', y, hA, _, hy, hd⟩ := h.at_ hmlt
        obtain ⟨rfl, rfl⟩ : b = b' ∧ off = off' := by injection hA with hA; injection hA with e1 e2; exact ⟨e1, e2⟩
        have hgx : xs.getD j 0 = x := by rw [List.getD_eq_getElem?_getD, hx]; rfl
        have hgy : xs.getD ((j + 1) % xs.length) 0 = y := by rw [hl.out, List.getD_eq_getElem?_getD, hy]; rfl
        have HX := Lib.hid hgx
        have HY := Lib.hid hgy
        have hm : ((j : Int) + 1) % (n : Int) = ((j + 1) % n : Nat) := by rw [← Int.natCast_one, ← Int.natCast_add, ← Int.natCast_emod]
        clear hx hy hgx hgy hA
        generalize (j + 1) % n = m at hm hmlt hd
        by_cases hp : x = y
        · subst hp
          have HF : Hid (reducedB xs = false) := by
            unfold Hid reducedB cycB
            rw [HV.out, Bool.true_and, List.all_eq_false]
            refine ⟨j, by rw [List.mem_range, hl.out]; exact hlt, ?_⟩
            rw [HX.out, HY.out]; simp
          go_wp2
          go_ret
          exact ⟨ret_bool HF.out.symm, rfl⟩
        · have hp' : (x == y) = false := by rw [beq_eq_false_iff_ne]; exact hp
          have HP := Lib.hid hp
          clear hp
          go_wp2
          go_round
          case rel => exact ⟨j + 1, by omega, by go_num, by rw [range_all_succ, HALL.out, HX.out, HY.out]; simp [HP.out]⟩
          case measure => simp [intOf]; omega
      · go_wp2
        go_ret
        refine ⟨ret_bool ?_, rfl⟩
        obtain rfl : j = n := by omega
        unfold reducedB cycB
        rw [HV.out, hl.out, Bool.true_and]
        have := HALL.out
        rw [hl.out] at this
        exact this.symm


end Go.Proofs.YtbbpockkafbfmaaDoor.Lw

namespace Go.Proofs.YtbbpockkafbfmaaDoor.Lw
open Go.RowKit

def aheadM (a b : Int) : Int := (b - a + 41) % 41

set_option maxHeartbeats 400000 in
theorem ahead_calls (a b : Int) (w : World) (a0 : 0 ≤ a) (a1 : a ≤ 40) (b0 : 0 ≤ b) (b1 : b ≤ 40) :
    Calls Tryd.prog 113 #[.int .i64 a, .int .i64 b] w fun e w' => e = .returned (.int .i64 (aheadM a b)) ∧ w = w' := by
  go_enter Tryd.func113, Tryd.ntmps113
  go_wp2
  go_ret
  exact ⟨rfl, rfl⟩

/-- What order answers from step i on. -/
def ordM (xs : List Int) (p q : Nat) : (i rem : Nat) → (side : Int) → Int
  | _, 0, _ => 0
  | i, r + 1, side =>
    if Ln.along xs p i = Ln.along xs q i then ordM xs p q (i + 1) r (-side)
    else side * Lib.compareInt (aheadM (Ln.along xs p (i - 1)) (Ln.along xs q i)) (aheadM (Ln.along xs p (i - 1)) (Ln.along xs p i))
def orderM (xs : List Int) (p q : Nat) : Int := ordM xs p q 1 (xs.length - 1) 1

theorem compareInt_bd (x y : Int) : -1 ≤ Lib.compareInt x y ∧ Lib.compareInt x y ≤ 1 := by
  unfold Lib.compareInt
  split
  · omega
  · split <;> omega

def OrdRel (xs : List Int) (n p q : Nat) (w : World) (side i : Value) (wr : World) : Prop :=
  ∃ (j : Nat) (s : Int), 1 ≤ j ∧ (j ≤ n ∨ j = 1) ∧ i = .int .i64 j ∧ side = .int .i64 s ∧ (s = 1 ∨ s = -1) ∧ orderM xs p q = ordM xs p q j (n - j) s ∧ Below w.heap.size w wr

theorem along_mem {xs : List Int} {n s i : Nat} (hl : xs.length = n) (hn : 0 < n) : Ln.along xs s i ∈ xs := by
  have hlt := alongI_lt (n := n) (s := s) (t := i) hn
  have hx : xs[Ln.alongI n s i]? = some xs[Ln.alongI n s i] := List.getElem?_eq_getElem (by omega)
  rw [along_at hl hx]
  exact List.getElem_mem _

set_option maxHeartbeats 1000000 in
set_option maxRecDepth 100000 in
theorem order_calls (A : Option Addr) (n cap : Nat) (xs : List Int) (p q : Nat) (w : World) (h : SL w A n xs) (hn : n ≤ 400) (hp : p < n) (hq : q < n) (hr : ∀ x, x ∈ xs → 0 ≤ x ∧ x ≤ 40) :
    Calls Tryd.prog 91 #[.slice A n cap, .int .i64 p, .int .i64 q] w fun e w' => e = .returned (.int .i64 (orderM xs p q)) ∧ Below w.heap.size w w' := by
  have HL := Lib.hid h.1
  have HR := Lib.hid hr
  clear hr
  go_enter Tryd.func91, Tryd.ntmps91
  go_wp2_with fail
  go_loopw [7, 8] (fun side i wr => OrdRel xs n p q w side i wr) (fun _ i _ => n - (intOf i).toNat)
  case atStart => exact ⟨1, 1, Nat.le_refl _, .inr rfl, rfl, rfl, .inl rfl, by unfold orderM; rw [HL.out], Below.refl _ _⟩
  case round =>
    obtain ⟨j, s, hj1, hjn, rfl, rfl, hs, hord, hb⟩ := hrel
    have HORD := Lib.hid hord
    have HJ := Lib.hid hjn
    have HS := Lib.hid hs
    have hs1 : -1 ≤ s := by omega
    have hs2 : s ≤ 1 := by omega
    clear hord hjn hs
    by_cases hlt : j < n
    · have HA1 := Lib.hid (along_any A n cap xs p (j - 1) w h hn hp (by omega))
      have HA2 := Lib.hid (along_any A n cap xs p j w h hn hp (by omega))
      have HA3 := Lib.hid (along_any A n cap xs q j w h hn hq (by omega))
      have ej : ((j - 1 : Nat) : Int) = (j : Int) - 1 := by omega
      rw [ej] at HA1
      clear ej
      obtain ⟨f0, hf0⟩ : ∃ x, Ln.along xs p (j - 1) = x := ⟨_, rfl⟩
      obtain ⟨x1, hx1⟩ : ∃ x, Ln.along xs p j = x := ⟨_, rfl⟩
      obtain ⟨x2, hx2⟩ : ∃ x, Ln.along xs q j = x := ⟨_, rfl⟩
      rw [hf0] at HA1
      rw [hx1] at HA2
      rw [hx2] at HA3
      have HF0 := Lib.hid hf0
      have HX1 := Lib.hid hx1
      have HX2 := Lib.hid hx2
      have bf := HR.out _ (hf0 ▸ along_mem (s := p) (i := j - 1) HL.out (by omega))
      have b1 := HR.out _ (hx1 ▸ along_mem (s := p) (i := j) HL.out (by omega))
      have b2 := HR.out _ (hx2 ▸ along_mem (s := q) (i := j) HL.out (by omega))
      have hstep : Hid (ordM xs p q j (n - j) s = if x1 = x2 then ordM xs p q (j + 1) (n - (j + 1)) (-s) else s * Lib.compareInt (aheadM f0 x2) (aheadM f0 x1)) := by
        unfold Hid
        rw [show n - j = (n - (j + 1)) + 1 by omega, ordM, hx1, hx2, hf0]
      clear hf0 hx1 hx2
      obtain ⟨bf1, bf2⟩ := bf
      obtain ⟨b11, b12⟩ := b1
      obtain ⟨b21, b22⟩ := b2
      by_cases hxy : x1 = x2
      · have hst := hstep.out
        rw [if_pos hxy] at hst
        have HST := Lib.hid hst
        subst hxy
        clear hst
        go_wp2_with (first
          | ((with_reducible refine (HA1.out wr hb).mono ?_); rintro e w1 ⟨rfl, hb1⟩; have hbw1 : Below w.heap.size w w1 := hb.trans (hb1.mono hb.size))
          | ((with_reducible refine (HA2.out w1 hbw1).mono ?_); rintro e w2 ⟨rfl, hb2⟩; have hbw2 : Below w.heap.size w w2 := hbw1.trans (hb2.mono hbw1.size))
          | ((with_reducible refine (HA3.out w2 hbw2).mono ?_); rintro e w3 ⟨rfl, hb3⟩; have hbw3 : Below w.heap.size w w3 := hbw2.trans (hb3.mono hbw2.size)))
        go_roundw
        case rel => exact ⟨j + 1, -s, by omega, .inl (by omega), by rw [Int.natCast_add]; rfl, rfl, by have := HS.out; omega, by rw [HORD.out, HST.out], hbw3⟩
        case measure => simp [intOf]; omega
      · have hst := hstep.out
        rw [if_neg hxy] at hst
        have HST := Lib.hid hst
        have hne : (x1 != x2) = true := by rw [bne_iff_ne]; exact hxy
        have HC1 := Lib.hid (fun W => ahead_calls f0 x2 W bf1 bf2 b21 b22)
        have HC2 := Lib.hid (fun W => ahead_calls f0 x1 W bf1 bf2 b11 b12)
        obtain ⟨y1, hy1⟩ : ∃ y, aheadM f0 x2 = y := ⟨_, rfl⟩
        obtain ⟨y2, hy2⟩ : ∃ y, aheadM f0 x1 = y := ⟨_, rfl⟩
        obtain ⟨z, hz⟩ : ∃ z, Lib.compareInt y1 y2 = z := ⟨_, rfl⟩
        have hzb := compareInt_bd y1 y2
        rw [hz] at hzb
        obtain ⟨z1, z2⟩ := hzb
        have hsz : -1 ≤ s * z ∧ s * z ≤ 1 := by
          rcases HS.out with e | e <;> subst e <;> omega
        obtain ⟨sz1, sz2⟩ := hsz
        rw [hy1] at HC1
        rw [hy2] at HC2
        rw [hy1, hy2, hz] at HST
        have HZ := Lib.hid hz
        clear hst hxy hy1 hy2 hz
        go_wp2_with (first
          | ((with_reducible refine (HA1.out wr hb).mono ?_); rintro e w1 ⟨rfl, hb1⟩; have hbw1 : Below w.heap.size w w1 := hb.trans (hb1.mono hb.size))
          | ((with_reducible refine (HA2.out w1 hbw1).mono ?_); rintro e w2 ⟨rfl, hb2⟩; have hbw2 : Below w.heap.size w w2 := hbw1.trans (hb2.mono hbw1.size))
          | ((with_reducible refine (HA3.out w2 hbw2).mono ?_); rintro e w3 ⟨rfl, hb3⟩; have hbw3 : Below w.heap.size w w3 := hbw2.trans (hb3.mono hbw2.size))
          | ((with_reducible refine (HC1.out _).mono ?_); rintro e w4 ⟨rfl, rfl⟩)
          | ((with_reducible refine (HC2.out _).mono ?_); rintro e w4 ⟨rfl, rfl⟩)
          | ((with_reducible refine (Tryd.cmp_Compare_int _ _ _).mono ?_); rw [HZ.out]; rintro e w5 ⟨rfl, rfl⟩))
        go_ret
        exact ⟨ret_int (by rw [HORD.out, HST.out]), hbw3⟩
    · go_wp2_with fail
      go_ret
      refine ⟨ret_int ?_, hb⟩
      rw [HORD.out, show n - j = 0 by omega, ordM]

end Go.Proofs.YtbbpockkafbfmaaDoor.Lw

namespace Go.Proofs.YtbbpockkafbfmaaDoor.Lw
open Go.RowKit
theorem errB_of_valid {k : Int} {xs : List Int} (h : validB k xs = true) : errB k xs = 0 := by
  have : xs.length ≤ 400 := by unfold validB at h; simp only [Bool.and_eq_true, decide_eq_true_eq] at h; exact h.1.1.2
  unfold errB
  rw [if_neg (by omega), if_pos h]
theorem validB_range {k : Int} {xs : List Int} (h : validB k xs = true) {x : Int} (hx : x ∈ xs) : 0 ≤ x ∧ x ≤ k := by
  unfold validB at h
  simp only [Bool.and_eq_true, decide_eq_true_eq, List.all_eq_true] at h
  exact h.2 x hx

end Go.Proofs.YtbbpockkafbfmaaDoor.Lw

namespace Go.Proofs.YtbbpockkafbfmaaDoor.Lw
open Go.RowKit

/-- The ranks behind the first q letters before the letter p; none where two strands never part. -/
def innerM (xs : List Int) (p : Nat) : Nat → List Int → Option (List Int)
  | 0, r => some r
  | q + 1, r => (innerM xs p q r).bind fun r' =>
    if xs.getD p 0 = xs.getD q 0 then
      (if orderM xs p q = -1 then some (r'.set q (r'.getD q 0 + 1)) else if orderM xs p q = 1 then some (r'.set p (r'.getD p 0 + 1)) else none)
    else some r'
def outerM (xs : List Int) : Nat → Option (List Int)
  | 0 => some (List.replicate xs.length 0)
  | p + 1 => (outerM xs p).bind fun r => innerM xs p p (r.set p (r.getD p 0 + 1))

theorem innerM_none {xs : List Int} {p : Nat} {r : List Int} {q : Nat} (h : innerM xs p q r = none) : ∀ q', q ≤ q' → innerM xs p q' r = none := by
  intro q' hq
  induction q' with
  | zero => obtain rfl : q = 0 := by omega
            exact h
  | succ q' ih =>
    by_cases e : q = q' + 1
    · subst e; exact h
    · rw [innerM, ih (by omega)]; rfl
theorem outerM_none {xs : List Int} {p : Nat} (h : outerM xs p = none) : ∀ p', p ≤ p' → outerM xs p' = none := by
  intro p' hp
  induction p' with
  | zero => obtain rfl : p = 0 := by omega
            exact h
  | succ p' ih =>
    by_cases e : p = p' + 1
    · subst e; exact h
    · rw [outerM, ih (by omega)]; rfl

/-- All ranks lie in these bounds. -/
def Bd (n : Nat) (M : Int) (r : List Int) : Prop := r.length = n ∧ ∀ x, x ∈ r → 0 ≤ x ∧ x ≤ M
theorem Bd.getD {n : Nat} {M : Int} {r : List Int} (h : Bd n M r) (hM : 0 ≤ M) (i : Nat) : 0 ≤ r.getD i 0 ∧ r.getD i 0 ≤ M := by
  rw [List.getD_eq_getElem?_getD]
  cases e : r[i]? with
  | none => exact ⟨Int.le_refl _, hM⟩
  | some x => exact h.2 x (List.mem_of_getElem? e)
theorem Bd.set {n : Nat} {M : Int} {r : List Int} (h : Bd n M r) (hM : 0 ≤ M) (i : Nat) : Bd n (M + 1) (r.set i (r.getD i 0 + 1)) := by
  refine ⟨by rw [List.length_set]; exact h.1, fun x hx => ?_⟩
  have hg := h.getD hM i
  rcases List.mem_or_eq_of_mem_set hx with hx | hx
  · have := h.2 x hx; omega
  · subst hx; omega
theorem Bd.mono {n : Nat} {M M' : Int} {r : List Int} (h : Bd n M r) (hM : M ≤ M') : Bd n M' r := ⟨h.1, fun x hx => by have := h.2 x hx; omega⟩
theorem innerM_bd {xs : List Int} {p n : Nat} {M : Int} {r0 : List Int} (h0 : Bd n M r0) (hM : 0 ≤ M) : ∀ (q : Nat) (r : List Int), innerM xs p q r0 = some r → Bd n (M + q) r := by
  intro q
  induction q with
  | zero => intro r h; rw [innerM] at h; injection h with h; subst h; simpa using h0
  | succ q ih =>
    intro r h
    rw [innerM] at h
    cases e : innerM xs p q r0 with
    | none => rw [e] at h; cases h
    | some r' =>
      rw [e] at h
      have hb := ih r' e
      simp only [Option.bind_some] at h
      have en : M + ((q + 1 : Nat) : Int) = M + q + 1 := by omega
      rw [en]
      split at h
      · split at h
        · injection h with h; subst h; exact hb.set (by omega) _
        · split at h
          · injection h with h; subst h; exact hb.set (by omega) _
          · cases h
      · injection h with h; subst h; exact hb.mono (by omega)
theorem outerM_bd {xs : List Int} {n : Nat} (hl : xs.length = n) : ∀ (p : Nat) (r : List Int), p ≤ 400 → outerM xs p = some r → Bd n (401 * (p : Int)) r := by
  intro p
  induction p with
  | zero =>
    intro r _ h
    rw [outerM] at h
    injection h with h
    subst h
    exact ⟨by simp [hl], fun x hx => by rw [List.eq_of_mem_replicate hx]; omega⟩
  | succ p ih =>
    intro r hp h
    rw [outerM] at h
    cases e : outerM xs p with
    | none => rw [e] at h; cases h
    | some r' =>
      rw [e] at h
      simp only [Option.bind_some] at h
      have hb := (ih r' (by omega) e).set (by omega) p
      exact (innerM_bd hb (by omega) p r h).mono (by omega)

def OutRel (xs : List Int) (n g : Nat) (w : World) (gk : Nat) (i : Value) (wr : World) : Prop :=
  ∃ (p : Nat) (r : List Int), p + gk = n ∧ i = .int .i64 p ∧ outerM xs p = some r ∧ OwnI wr w.heap.size (.slice (some ⟨g, 0, none⟩) n n) r ∧ Below w.heap.size w wr
def InRel (xs : List Int) (n p g : Nat) (r0 : List Int) (w : World) (gk : Nat) (i : Value) (wr : World) : Prop :=
  ∃ (q : Nat) (r : List Int), q + gk = p ∧ i = .int .i64 q ∧ innerM xs p q r0 = some r ∧ OwnI wr w.heap.size (.slice (some ⟨g, 0, none⟩) n n) r ∧ Below w.heap.size w wr
/-- What onlyRanks leaves. -/
def OnlyPost (xs : List Int) (n : Nat) (w : World) (e : Ending) (w' : World) : Prop :=
  ∃ A c r, e = .returned (.tuple #[.slice A n c, .bool (outerM xs n).isSome]) ∧ OwnI w' w.heap.size (.slice A n c) r ∧ (∀ r', outerM xs n = some r' → r = r') ∧ n ≤ c ∧ Below w.heap.size w w'

theorem OwnI.drewN {w : World} {B : Nat} {v : Value} {xs : List Int} (h : OwnI w B v xs) (k : Nat) : OwnI (w.drewN k) B v xs := h

set_option maxHeartbeats 1000000 in
set_option maxRecDepth 100000 in
theorem onlyRanks_calls (A : Option Addr) (n cap : Nat) (xs : List Int) (w : World) (h : SL w A n xs) (hn : n ≤ 400) (hr : ∀ x, x ∈ xs → 0 ≤ x ∧ x ≤ 40) :
    Calls Tryd.prog 57 #[.slice A n cap] w (OnlyPost xs n w) := by
  have HL := Lib.hid h.1
  have HR := Lib.hid hr
  clear hr
  go_enter Tryd.func57, Tryd.ntmps57
  go_wp2_with fail
  go_step3
  go_wp2_with (at_make; refine wpList_make_ints rfl _ _ rfl n rfl rfl (by omega) ?_; intro w1 hown1 hb1)
  go_step3
  go_wp2_with fail
  go_loopg [5, 13] n (fun g v i wr => v = .bool true ∧ OutRel xs n w.heap.size w g i wr)
  case atStart => exact ⟨rfl, 0, _, Nat.zero_add _, rfl, by rw [outerM, HL.out], hown1, hb1⟩
  case round =>
    obtain ⟨rfl, p, r, hp, rfl, hM, hown, hb⟩ := hrel
    obtain ⟨wo, hwo⟩ : ∃ wo : World, wo = wr := ⟨_, rfl⟩
    obtain rfl := hwo
    have HM := Lib.hid hM
    have HOWN := Lib.hid hown
    have HP := Lib.hid hp
    clear hown1 hown hM hp
    cases gk with
    | zero =>
      have hge : ¬ p < n := by have := HP.out; omega
      have hpn : p = n := by have := HP.out; omega
      have HPN := Lib.hid hpn
      have hge2 : (n : Int) ≤ (p : Int) := by omega
      clear hpn hge
      go_wp2_with fail
      try rw [Exit.noGoto_ret]
      go_ret2
      have e := HPN.out
      subst e
      exact ⟨_, _, r, by rw [HM.out]; rfl, HOWN.out, (fun r' h' => by rw [HM.out] at h'; injection h'), Nat.le_refl _, hb⟩
    | succ g =>
      have hlt : p < n := by have := HP.out; omega
      have hlti : (p : Int) < (n : Int) := by omega
      have hbd := outerM_bd HL.out p r (by omega) HM.out
      have HBD := Lib.hid hbd
      obtain ⟨y, hy, hyc, hyf, hyg⟩ := HOWN.out.cell (k := p) hlt
      have hyb := hbd.2 y (List.mem_of_getElem? hy)
      have hyd : r.getD p 0 = y := by rw [List.getD_eq_getElem?_getD, hy]; rfl
      have HYD := Lib.hid hyd
      obtain ⟨hy0, hy1⟩ := hyb
      have h1 := HOWN.out.set hlt (y + 1)
      rw [← hyd] at h1
      have hb1 := hb.setCell (p := ⟨w.heap.size, p, none⟩) hyg (.int .i64 (r.getD p 0 + 1))
      have hbd1 := hbd.set (by omega) p
      rw [hyd] at h1 hb1
      obtain ⟨r0, hr0⟩ : ∃ r0, r.set p (y + 1) = r0 := ⟨_, rfl⟩
      rw [hyd] at hbd1
      rw [hr0] at h1 hbd1
      have hnext : ∀ q : Option (List Int), innerM xs p p r0 = q → outerM xs (p + 1) = q := by
        intro q hq
        rw [outerM, HM.out]
        show innerM xs p p (r.set p (r.getD p 0 + 1)) = q
        rw [HYD.out, hr0]; exact hq
      have HNEXT := Lib.hid hnext
      have H1 := Lib.hid h1
      have HB1 := Lib.hid hb1
      have HBD1 := Lib.hid hbd1
      clear hbd hy hyd h1 hb1 hbd1 hr0 hnext
      go_wp2_with fail
      go_loopg [5, 23] p (fun g2 v i wr => v = .bool true ∧ InRel xs n p w.heap.size r0 w g2 i wr)
      case atStart => exact ⟨rfl, 0, r0, Nat.zero_add _, rfl, rfl, H1.out, HB1.out⟩
      case round =>
        obtain ⟨rfl, q, r2, hq, rfl, hM2, hown2, hb2⟩ := hrel
        have HM2 := Lib.hid hM2
        have HOWN2 := Lib.hid hown2
        have HQ := Lib.hid hq
        clear hown2 hM2 hq hyc hyf
        cases gk with
        | zero =>
          have hqp : q = p := by have := HQ.out; omega
          have HPN := Lib.hid hqp
          have hge2 : (p : Int) ≤ (q : Int) := by omega
          clear hqp
          go_wp2_with fail
          go_roundg g
          case measure => omega
          case rel =>
            have e := HPN.out
            subst e
            exact ⟨rfl, q + 1, r2, by have := HP.out; omega, by rw [Int.natCast_add]; rfl, HNEXT.out _ HM2.out, HOWN2.out, hb2⟩
        | succ g2 =>
          have hqp : q < p := by have := HQ.out; omega
          have hqpi : (q : Int) < (p : Int) := by omega
          have hqn : q < n := by omega
          have hqni : (q : Int) < (n : Int) := by omega
          obtain ⟨b, off, xp, rfl, hbb, hxp, hcp⟩ := (h.below hb2).at_ hlt
          obtain ⟨b', off', xq, hA', _, hxq, hcq⟩ := (h.below hb2).at_ hqn
          obtain ⟨rfl, rfl⟩ : b = b' ∧ off = off' := by injection hA' with hA'; injection hA' with e1 e2; exact ⟨e1, e2⟩
          have hgp : xs.getD p 0 = xp := by rw [List.getD_eq_getElem?_getD, hxp]; rfl
          have hgq : xs.getD q 0 = xq := by rw [List.getD_eq_getElem?_getD, hxq]; rfl
          have hstep : innerM xs p (q + 1) r0 = if xp = xq then (if orderM xs p q = -1 then some (r2.set q (r2.getD q 0 + 1)) else if orderM xs p q = 1 then some (r2.set p (r2.getD p 0 + 1)) else none) else some r2 := by
            rw [innerM, HM2.out, Option.bind_some, hgp, hgq]
          have HSTEP := Lib.hid hstep
          clear hxp hxq hA' hgp hgq hstep
          by_cases hxx : xp = xq
          · have hs2 := HSTEP.out
            rw [if_pos hxx] at hs2
            have HS2 := Lib.hid hs2
            subst hxx
            have HO := Lib.hid (fun N => order_calls (some ⟨b, off, none⟩) n cap xs p q (wr.drewN N) ((h.below hb2).drewN N) hn hlt hqn HR.out)
            have hbd2 := innerM_bd HBD1.out (by omega) q r2 HM2.out
            obtain ⟨yq, hyq, hyqc, hyqf, hyqg⟩ := HOWN2.out.cell (k := q) hqn
            obtain ⟨yp, hyp, hypc, hypf, hypg⟩ := HOWN2.out.cell (k := p) hlt
            have hyqb := hbd2.2 yq (List.mem_of_getElem? hyq)
            have hypb := hbd2.2 yp (List.mem_of_getElem? hyp)
            have hyqd : r2.getD q 0 = yq := by rw [List.getD_eq_getElem?_getD, hyq]; rfl
            have hypd : r2.getD p 0 = yp := by rw [List.getD_eq_getElem?_getD, hyp]; rfl
            have hg_lt : w.heap.size < wr.heap.size := World.block_lt_of_cell? wr _ hyqc
            obtain ⟨yq0, yq1⟩ := hyqb
            obtain ⟨yp0, yp1⟩ := hypb
            have hsz2 := hb2.size
            rw [hyqd, hypd] at HS2
            clear hs2 hyq hyp hyqd hypd hbd2
            obtain ⟨z, hz⟩ : ∃ z, orderM xs p q = z := ⟨_, rfl⟩
            rw [hz] at HS2
            have HZ := Lib.hid hz
            clear hz
            by_cases hz1 : z = -1
            · have hzb : (z == -1) = true := by rw [beq_iff_eq]; exact hz1
              have hs3 := HS2.out
              rw [if_pos hz1] at hs3
              have HS3 := Lib.hid hs3
              clear hs3 hz1
              go_wp2_with fail
              go_quiet (fail)
              go_wp2_with (go_at_call 91; refine (HO.out _).mono ?_; rw [HZ.out]; rintro e w3 ⟨rfl, hb3⟩; have hcell3 := (hb3.cell (p := ⟨w.heap.size, q, none⟩) hg_lt).trans hyqc; have hfr3 := (hb3.frozen (p := ⟨w.heap.size, q, none⟩) hg_lt).trans hyqf)
              go_roundg g2
              case measure => omega
              case rel => exact ⟨rfl, q + 1, _, by have := HQ.out; omega, by rw [Int.natCast_add]; rfl, HS3.out, ((HOWN2.out.drewN _).below hb3).set hqn _, ((below_drewN hb2 _).trans (hb3.mono hsz2)).setCell (p := ⟨w.heap.size, q, none⟩) (Nat.le_refl _) _⟩
            · have hzb : (z == -1) = false := by rw [beq_eq_false_iff_ne]; exact hz1
              have hs3 := HS2.out
              rw [if_neg hz1] at hs3
              clear hz1
              by_cases hz2 : z = 1
              · have hzb2 : (z == 1) = true := by rw [beq_iff_eq]; exact hz2
                rw [if_pos hz2] at hs3
                have HS3 := Lib.hid hs3
                clear hs3 hz2
                go_wp2_with fail
                go_quiet (fail)
                go_wp2_with (go_at_call 91; refine (HO.out _).mono ?_; rw [HZ.out]; rintro e w3 ⟨rfl, hb3⟩; have hcell3 := (hb3.cell (p := ⟨w.heap.size, p, none⟩) hg_lt).trans hypc; have hfr3 := (hb3.frozen (p := ⟨w.heap.size, p, none⟩) hg_lt).trans hypf)
                go_roundg g2
                case measure => omega
                case rel => exact ⟨rfl, q + 1, _, by have := HQ.out; omega, by rw [Int.natCast_add]; rfl, HS3.out, ((HOWN2.out.drewN _).below hb3).set hlt _, ((below_drewN hb2 _).trans (hb3.mono hsz2)).setCell (p := ⟨w.heap.size, p, none⟩) (Nat.le_refl _) _⟩
              · have hzb2 : (z == 1) = false := by rw [beq_eq_false_iff_ne]; exact hz2
                rw [if_neg hz2] at hs3
                have hnone : Hid (outerM xs n = none) := outerM_none (HNEXT.out _ (innerM_none hs3 p (by omega))) n (by omega)
                clear hs3 hz2
                go_wp2_with fail
                go_quiet (fail)
                go_wp2_with (go_at_call 91; refine (HO.out _).mono ?_; rw [HZ.out]; rintro e w3 ⟨rfl, hb3⟩)
                try rw [Exit.noGoto_ret]
                go_ret2
                exact ⟨_, _, r2, by rw [hnone.out]; rfl, (HOWN2.out.drewN _).below hb3, (fun r' h' => by rw [hnone.out] at h'; cases h'), Nat.le_refl _, (below_drewN hb2 _).trans (hb3.mono hsz2)⟩
          · have hne : (xp != xq) = true := by rw [bne_iff_ne]; exact hxx
            have hs2 := HSTEP.out
            rw [if_neg hxx] at hs2
            have HS2 := Lib.hid hs2
            clear hs2 hxx
            go_wp2_with fail
            go_quiet (fail)
            go_wp2_with fail
            go_roundg g2
            case measure => omega
            case rel => exact ⟨rfl, q + 1, r2, by have := HQ.out; omega, by rw [Int.natCast_add]; rfl, HS2.out, HOWN2.out, below_drewN hb2 _⟩

/-- line.Ranks of a reduced word whose strands don't all part: there are none. -/
theorem ranks_none (A : Option Addr) (n cap : Nat) (xs : List Int) (w : World) (h : SL w A n xs) (hv : reducedB xs = true) (hn : n ≤ 400) (ho : outerM xs n = none) :
    Calls Tryd.prog 26 #[.slice A n cap] w (ErrPost w 8 []) := by
  have hv1 : validB 40 xs = true := by unfold reducedB at hv; simp only [Bool.and_eq_true] at hv; exact hv.1
  have hm : n ≤ maxLen := by unfold maxLen; omega
  have HC := Lib.hid (check_calls 40 A n cap xs w h hm)
  have HE := Lib.hid (errB_of_valid hv1)
  have HV := Lib.hid hv
  have HR := Lib.hid (reduced_calls A n cap xs w h hm)
  have HO := Lib.hid (onlyRanks_calls A n cap xs w h hn (fun x hx => validB_range hv1 hx))
  have HN := Lib.hid ho
  clear hv hv1 ho
  go_enter Tryd.func26, Tryd.ntmps26
  go_wp2_with (first
    | (go_at_call 55; refine HC.out.mono ?_; rw [HE.out]; rintro e w' ⟨rfl, rfl⟩)
    | (go_at_call 56; refine HR.out.mono ?_; rw [HV.out]; rintro e w' ⟨rfl, rfl⟩)
    | (go_at_call 57; refine HO.out.mono ?_; rintro e w1 ⟨A1, c1, r, rfl, hown, _, hc, hb⟩; rw [HN.out]))
  go_ret2
  exact ErrPost.err (by decide) hb

end Go.Proofs.YtbbpockkafbfmaaDoor.Lw

namespace Go.Proofs.YtbbpockkafbfmaaDoor.Lw.Rk

/-- The next letter, forwards or backwards. -/
def nx (n : Nat) (b : Bool) (x : Nat) : Nat :=
  if b then (if x + 1 = n then 0 else x + 1) else (if x = 0 then n - 1 else x - 1)
def it (n : Nat) (b : Bool) (x : Nat) : Nat → Nat
  | 0 => x
  | i + 1 => nx n b (it n b x i)
theorem it_add (n : Nat) (b : Bool) (x i : Nat) : ∀ j, it n b x (i + j) = it n b (it n b x i) j
  | 0 => rfl
  | j + 1 => by rw [← Nat.add_assoc, it, it, it_add n b x i j]
theorem nx_lt {n : Nat} {b : Bool} {x : Nat} (hx : x < n) : nx n b x < n := by
  unfold nx
  split <;> split <;> omega
theorem it_lt {n : Nat} {b : Bool} {x : Nat} (hx : x < n) : ∀ i, it n b x i < n
  | 0 => hx
  | i + 1 => nx_lt (it_lt hx i)
theorem nx_par {n : Nat} (he : n % 2 = 0) {b : Bool} {x : Nat} (hx : x < n) : nx n b x % 2 = (x + 1) % 2 := by
  unfold nx
  split <;> split <;> omega
theorem it_par {n : Nat} (he : n % 2 = 0) {b : Bool} {x : Nat} (hx : x < n) : ∀ i, it n b x i % 2 = (x + i) % 2
  | 0 => rfl
  | i + 1 => by
    rw [it, nx_par he (it_lt hx i)]
    have := it_par he (b := b) hx i
    omega
theorem succ_mod {n a : Nat} (hn : 0 < n) : (a + 1) % n = if a % n + 1 = n then 0 else a % n + 1 := by
  have h1 : a % n < n := Nat.mod_lt _ hn
  split
  · rename_i h
    rw [Nat.add_mod]
    rcases Nat.lt_or_ge 1 n with h2 | h2
    · rw [Nat.mod_eq_of_lt h2, h, Nat.mod_self]
    · obtain rfl : n = 1 := by omega
      simp [Nat.mod_one]
  · rename_i h
    have h2 : 1 < n := by omega
    rw [Nat.add_mod, Nat.mod_eq_of_lt h2, Nat.mod_eq_of_lt (by omega)]
theorem it_true {n x : Nat} (hx : x < n) : ∀ i, it n true x i = (x + i) % n
  | 0 => (Nat.mod_eq_of_lt hx).symm
  | i + 1 => by
    rw [it, it_true hx i, ← Nat.add_assoc, succ_mod (by omega)]
    simp [nx]
theorem it_false {n x : Nat} (hx : x < n) : ∀ i, i ≤ n → it n false x i = (x + n - i) % n
  | 0, _ => by
    show x = (x + n) % n
    rw [Nat.add_mod_right, Nat.mod_eq_of_lt hx]
  | i + 1, hi => by
    rw [it, it_false hx i (by omega)]
    have h := succ_mod (n := n) (a := x + n - (i + 1)) (by omega)
    rw [show x + n - (i + 1) + 1 = x + n - i by omega] at h
    rw [h]
    have h1 : (x + n - (i + 1)) % n < n := Nat.mod_lt _ (by omega)
    unfold nx
    simp only [Bool.false_eq_true, if_false]
    split <;> split <;> omega

/-- Between, on a line. -/
def Btw (x u v : Int) : Prop := (u < x ∧ x < v) ∨ (v < x ∧ x < u)
def ahead (a b : Int) : Int := (b - a + 41) % 41

/-- How two arcs from one gate lie that do not cross. -/
theorem arcs_lie {A A' B B' g ga gb : Int} (h0 : 0 ≤ g ∧ g ≤ 40) (h1 : 0 ≤ ga ∧ ga ≤ 40) (h2 : 0 ≤ gb ∧ gb ≤ 40) (na : g ≠ ga) (nb : g ≠ gb) (hAB : A ≠ B) (hAB' : A' ≠ B')
    (a1 : g < ga → A < A' ∧ B < A') (a2 : ga < g → A' < A ∧ A' < B) (b1 : g < gb → A < B' ∧ B < B') (b2 : gb < g → B' < A ∧ B' < B) (c1 : ga < gb → A' < B') (c2 : gb < ga → B' < A')
    (hN : Btw B A A' ↔ Btw B' A A') : (ga = gb → (A < B ↔ B' < A')) ∧ (ga ≠ gb → (A < B ↔ ahead g gb < ahead g ga)) := by
  unfold Btw at hN
  unfold ahead
  constructor
  · intro e
    subst e
    rcases Int.lt_or_gt_of_ne na with h | h
    · obtain ⟨p, q⟩ := a1 h
      obtain ⟨p', q'⟩ := b1 h
      constructor
      · intro hl
        have h3 := hN.1 (.inl ⟨hl, q⟩)
        omega
      · intro hl
        have h3 := hN.2 (.inl ⟨p', hl⟩)
        omega
    · obtain ⟨p, q⟩ := a2 h
      obtain ⟨p', q'⟩ := b2 h
      constructor
      · intro hl
        rcases Int.lt_or_gt_of_ne hAB' with h4 | h4
        · have h3 := hN.2 (.inr ⟨h4, p'⟩)
          omega
        · exact h4
      · intro hl
        rcases Int.lt_or_gt_of_ne hAB with h4 | h4
        · exact h4
        · have h3 := hN.1 (.inr ⟨q, h4⟩)
          omega
  · intro hne
    have e1 : (gb - g + 41) % 41 = if g < gb then gb - g else gb - g + 41 := by split <;> omega
    have e2 : (ga - g + 41) % 41 = if g < ga then ga - g else ga - g + 41 := by split <;> omega
    rw [e1, e2]
    rcases Int.lt_or_gt_of_ne na with h | h
    · obtain ⟨p, q⟩ := a1 h
      rcases Int.lt_or_gt_of_ne nb with h' | h'
      · obtain ⟨p', q'⟩ := b1 h'
        rw [if_pos h', if_pos h]
        rcases Int.lt_or_gt_of_ne hne with k | k
        · have := c1 k
          constructor
          · intro hl
            have h3 := hN.1 (.inl ⟨hl, q⟩)
            omega
          · intro hl; omega
        · have := c2 k
          constructor
          · intro hl; omega
          · intro hl
            have h3 := hN.2 (.inl ⟨p', this⟩)
            omega
      · obtain ⟨p', q'⟩ := b2 h'
        rw [if_neg (by omega), if_pos h]
        constructor
        · intro hl
          have h3 := hN.1 (.inl ⟨hl, q⟩)
          omega
        · intro hl; omega
    · obtain ⟨p, q⟩ := a2 h
      rcases Int.lt_or_gt_of_ne nb with h' | h'
      · obtain ⟨p', q'⟩ := b1 h'
        rw [if_pos h', if_neg (by omega)]
        constructor
        · intro hl; omega
        · intro hl
          rcases Int.lt_or_gt_of_ne hAB with h4 | h4
          · exact h4
          · have h3 := hN.1 (.inr ⟨q, h4⟩)
            omega
      · obtain ⟨p', q'⟩ := b2 h'
        rw [if_neg (by omega), if_neg (by omega)]
        rcases Int.lt_or_gt_of_ne hne with k | k
        · have := c1 k
          constructor
          · intro hl
            have h3 := hN.2 (.inr ⟨this, p'⟩)
            omega
          · intro hl; omega
        · have := c2 k
          constructor
          · intro hl; omega
          · intro hl
            rcases Int.lt_or_gt_of_ne hAB with h4 | h4
            · exact h4
            · have h3 := hN.1 (.inr ⟨q, h4⟩)
              omega

theorem btw_swap {x u v : Int} : Btw x u v ↔ Btw x v u := by unfold Btw; omega

/-- A word drawn by positions. -/
structure Dr (n : Nat) (g pos : Nat → Int) : Prop where
  even : n % 2 = 0
  rng : ∀ i, i < n → 0 ≤ g i ∧ g i ≤ 40
  red : ∀ i, i < n → g i ≠ g (nx n true i)
  mon : ∀ i j, i < n → j < n → g i < g j → pos i < pos j
  inj : ∀ i j, i < n → j < n → pos i = pos j → i = j
  nc : ∀ i j, i < n → j < n → i % 2 = j % 2 → i ≠ j → (Btw (pos j) (pos i) (pos (nx n true i)) ↔ Btw (pos (nx n true j)) (pos i) (pos (nx n true i)))

theorem nx_tf {n x : Nat} (hx : x < n) : nx n true (nx n false x) = x := by
  unfold nx
  simp only [Bool.false_eq_true, if_false, if_true]
  split
  · rw [if_pos (by omega)]; omega
  · rw [if_neg (by omega)]; omega
theorem nx_inj {n x y : Nat} (hx : x < n) (hy : y < n) (b : Bool) (h : nx n b x = nx n b y) : x = y := by
  unfold nx at h
  split at h <;> split at h <;> split at h <;> omega

variable {n : Nat} {g pos : Nat → Int}

/-- The arc on which one leaves a letter. -/
def arcOf (n : Nat) (b : Bool) (x : Nat) : Nat := if b then x else nx n false x
theorem arcOf_lt {b : Bool} {x : Nat} (hx : x < n) : arcOf n b x < n := by
  unfold arcOf
  split
  · exact hx
  · exact nx_lt hx
theorem arc_ends {b : Bool} {x : Nat} (hx : x < n) : (arcOf n b x = x ∧ nx n true (arcOf n b x) = nx n b x) ∨ (arcOf n b x = nx n b x ∧ nx n true (arcOf n b x) = x) := by
  cases b with
  | true => exact .inl ⟨rfl, rfl⟩
  | false => exact .inr ⟨rfl, nx_tf hx⟩
theorem Dr.nbr (D : Dr n g pos) {b : Bool} {x : Nat} (hx : x < n) : g x ≠ g (nx n b x) := by
  cases b with
  | true => exact D.red x hx
  | false =>
    have h := D.red (nx n false x) (nx_lt hx)
    rw [nx_tf hx] at h
    exact fun e => h e.symm

theorem Dr.step (D : Dr n g pos) {x y : Nat} {bx bY : Bool} (hx : x < n) (hy : y < n) (hne : x ≠ y) (hg : g x = g y) (hp : arcOf n bx x % 2 = arcOf n bY y % 2) :
    nx n bx x ≠ nx n bY y ∧ (g (nx n bx x) = g (nx n bY y) → (pos x < pos y ↔ pos (nx n bY y) < pos (nx n bx x))) ∧
      (g (nx n bx x) ≠ g (nx n bY y) → (pos x < pos y ↔ ahead (g x) (g (nx n bY y)) < ahead (g x) (g (nx n bx x)))) := by
  have nX := D.nbr (b := bx) hx
  have nY := D.nbr (b := bY) hy
  have lX : nx n bx x < n := nx_lt hx
  have lY : nx n bY y < n := nx_lt hy
  have ex := arc_ends (b := bx) hx
  have ey := arc_ends (b := bY) hy
  have pX := nx_par D.even (b := bx) hx
  have pY := nx_par D.even (b := bY) hy
  have aX : arcOf n bx x < n := arcOf_lt hx
  have aY : arcOf n bY y < n := arcOf_lt hy
  have hxy' : x ≠ nx n bY y := fun e => nY (by rw [← hg, ← e])
  have hyx' : y ≠ nx n bx x := fun e => nX (by rw [hg, ← e])
  have hax : arcOf n bx x ≠ arcOf n bY y := by
    intro e
    rcases ex with ⟨e1, e2⟩ | ⟨e1, e2⟩ <;> rcases ey with ⟨e3, e4⟩ | ⟨e3, e4⟩
    · exact hne (by rw [← e1, ← e3, e])
    · exact hxy' (by rw [← e1, ← e3, e])
    · exact hyx' (by rw [← e1, ← e3, e])
    · rw [e, e4] at e2
      exact hne e2.symm
  have hne' : nx n bx x ≠ nx n bY y := by
    intro e
    rcases ex with ⟨e1, e2⟩ | ⟨e1, e2⟩ <;> rcases ey with ⟨e3, e4⟩ | ⟨e3, e4⟩
    · refine hax (nx_inj aX aY true ?_)
      rw [e2, e4, e]
    · rw [e1, e3] at hp
      rw [e] at pX
      omega
    · rw [e1, e3] at hp
      rw [e] at pX
      omega
    · exact hax (by rw [e1, e3, e])
  have hN : Btw (pos y) (pos x) (pos (nx n bx x)) ↔ Btw (pos (nx n bY y)) (pos x) (pos (nx n bx x)) := by
    have h := D.nc _ _ aX aY hp hax
    rcases ex with ⟨e1, e2⟩ | ⟨e1, e2⟩ <;> rcases ey with ⟨e3, e4⟩ | ⟨e3, e4⟩ <;> rw [e2, e4, e1, e3] at h
    · exact h
    · exact h.symm
    · rw [btw_swap (x := pos y), btw_swap (x := pos (nx n bY y))]; exact h
    · rw [btw_swap (x := pos y), btw_swap (x := pos (nx n bY y))]; exact h.symm
  refine ⟨hne', ?_⟩
  refine arcs_lie (D.rng x hx) (D.rng _ lX) (D.rng _ lY) nX (by rw [hg]; exact nY) (fun e => hne (D.inj _ _ hx hy e)) (fun e => hne' (D.inj _ _ lX lY e)) ?_ ?_ ?_ ?_ (D.mon _ _ lX lY) (D.mon _ _ lY lX) hN
  · exact fun h => ⟨D.mon _ _ hx lX h, D.mon _ _ hy lX (by rw [← hg]; exact h)⟩
  · exact fun h => ⟨D.mon _ _ lX hx h, D.mon _ _ lX hy (by rw [← hg]; exact h)⟩
  · exact fun h => ⟨D.mon _ _ hx lY h, D.mon _ _ hy lY (by rw [← hg]; exact h)⟩
  · exact fun h => ⟨D.mon _ _ lY hx h, D.mon _ _ lY hy (by rw [← hg]; exact h)⟩

/-- The direction in which a strand that begins below leaves a letter. -/
def dir (p : Nat) : Bool := p % 2 == 0
def st (n p i : Nat) : Nat := it n (dir p) p i
theorem arc_par (he : n % 2 = 0) {p : Nat} (hp : p < n) (i : Nat) : arcOf n (dir p) (st n p i) % 2 = i % 2 := by
  have h1 := it_par he (b := dir p) hp i
  have h2 := nx_par he (b := false) (it_lt (b := dir p) hp i)
  unfold arcOf st
  split
  · rename_i h
    have : p % 2 = 0 := by simpa [dir] using h
    omega
  · rename_i h
    have : ¬ p % 2 = 0 := by simpa [dir] using h
    omega

theorem Dr.strand (D : Dr n g pos) {p q : Nat} (hp : p < n) (hq : q < n) (hne : p ≠ q) : ∀ i, (∀ j, j ≤ i → g (st n p j) = g (st n q j)) →
    st n p i ≠ st n q i ∧ (i % 2 = 0 → (pos (st n p i) < pos (st n q i) ↔ pos p < pos q)) ∧ (i % 2 = 1 → (pos (st n q i) < pos (st n p i) ↔ pos p < pos q))
  | 0, _ => ⟨hne, fun _ => Iff.rfl, fun h => by omega⟩
  | i + 1, h => by
    obtain ⟨h1, h2, h3⟩ := D.strand hp hq hne i (fun j hj => h j (by omega))
    have lp : st n p i < n := it_lt hp i
    have lq : st n q i < n := it_lt hq i
    obtain ⟨k1, k2, _⟩ := D.step (bx := dir p) (bY := dir q) lp lq h1 (h i (by omega)) (by rw [arc_par D.even hp, arc_par D.even hq])
    have k3 : pos (st n p i) < pos (st n q i) ↔ pos (st n q (i + 1)) < pos (st n p (i + 1)) := k2 (h (i + 1) (Nat.le_refl _))
    have ne1 : pos (st n p i) ≠ pos (st n q i) := fun e => h1 (D.inj _ _ lp lq e)
    have ne2 : pos (st n p (i + 1)) ≠ pos (st n q (i + 1)) := fun e => k1 (D.inj _ _ (nx_lt lp) (nx_lt lq) e)
    refine ⟨k1, fun he => ?_, fun ho => ?_⟩
    · have := h3 (by omega)
      omega
    · have := h2 (by omega)
      omega

/-- Strands that meet head on. -/
theorem head_on {p q : Nat} (he : n % 2 = 0) (hp : p < n) (hq : q < n) (p0 : p % 2 = 0) (q1 : q % 2 = 1) (red : ∀ i, i < n → g i ≠ g (nx n true i)) (h : ∀ j, j < n → g (st n p j) = g (st n q j)) : False := by
  have dp : dir p = true := by simp [dir, p0]
  have dq : dir q = false := by simp [dir, q1]
  obtain ⟨d, hd⟩ : ∃ d, d = if p ≤ q then q - p else q + n - p := ⟨_, rfl⟩
  have hd1 : d % 2 = 1 := by rw [hd]; split <;> omega
  have hdn : d < n := by rw [hd]; split <;> omega
  have key : ∀ i, 2 * i < d → (if st n p i ≤ st n q i then st n q i - st n p i else st n q i + n - st n p i) = d - 2 * i := by
    intro i
    induction i with
    | zero => intro _; exact hd.symm
    | succ i ih =>
      intro hi
      have h1 := ih (by omega)
      have l1 : st n p i < n := it_lt hp i
      have l2 : st n q i < n := it_lt hq i
      have e1 : st n p (i + 1) = if st n p i + 1 = n then 0 else st n p i + 1 := by unfold st; rw [it, dp]; rfl
      have e2 : st n q (i + 1) = if st n q i = 0 then n - 1 else st n q i - 1 := by unfold st; rw [it, dq]; rfl
      rw [e1, e2]
      split at h1 <;> split <;> split <;> split <;> omega
  have h1 := key ((d - 1) / 2) (by omega)
  have l1 : st n p ((d - 1) / 2) < n := it_lt hp _
  have l2 : st n q ((d - 1) / 2) < n := it_lt hq _
  have e : st n q ((d - 1) / 2) = nx n true (st n p ((d - 1) / 2)) := by
    unfold nx
    rw [if_pos rfl]
    split at h1 <;> split <;> omega
  refine red _ l1 ?_
  rw [← e]
  exact h _ (by omega)

theorem it_round {b : Bool} {x : Nat} (hx : x < n) : it n b x n = x := by
  cases b with
  | true => rw [it_true hx, Nat.add_mod_right, Nat.mod_eq_of_lt hx]
  | false => rw [it_false hx n (Nat.le_refl _), Nat.add_sub_cancel, Nat.mod_eq_of_lt hx]
theorem it_rounds {b : Bool} {x : Nat} (hx : x < n) : ∀ k, it n b x (n * k) = x
  | 0 => rfl
  | k + 1 => by rw [Nat.mul_succ, it_add, it_rounds hx k, it_round hx]
theorem reach {p q : Nat} (he : n % 2 = 0) (hp : p < n) (hq : q < n) (_hne : p ≠ q) (hpar : p % 2 = q % 2) : ∃ d, d % 2 = 0 ∧ 0 < d ∧ it n (dir p) p d = q := by
  cases hd : dir p with
  | true =>
    refine ⟨if p < q then q - p else q + n - p, by split <;> omega, by split <;> omega, ?_⟩
    rw [it_true hp]
    split
    · rw [show p + (q - p) = q by omega, Nat.mod_eq_of_lt hq]
    · rw [show p + (q + n - p) = q + n by omega, Nat.add_mod_right, Nat.mod_eq_of_lt hq]
  | false =>
    refine ⟨if q < p then p - q else p + n - q, by split <;> omega, by split <;> omega, ?_⟩
    rw [it_false hp _ (by split <;> omega)]
    split
    · rw [show p + n - (p - q) = q + n by omega, Nat.add_mod_right, Nat.mod_eq_of_lt hq]
    · rw [show p + n - (p + n - q) = q by omega, Nat.mod_eq_of_lt hq]

/-- All strands of a drawn word part. -/
theorem Dr.parts (D : Dr n g pos) {p q : Nat} (hp : p < n) (hq : q < n) (hne : p ≠ q) : ¬ ∀ j, j < n → g (st n p j) = g (st n q j) := by
  intro h
  by_cases hpar : p % 2 = q % 2
  · have hdir : dir q = dir p := by unfold dir; rw [hpar]
    obtain ⟨d, d0, d1, hdq⟩ := reach D.even hp hq hne hpar
    have hall : ∀ m j, j ≤ m → g (st n p j) = g (st n q j) := by
      intro m
      induction m with
      | zero => intro j hj; exact h j (by omega)
      | succ m ih =>
        intro j hj
        rcases Nat.lt_or_ge j n with hl | hl
        · exact h j hl
        · have e1 : st n p j = st n p (j - n) := by
            unfold st
            rw [show j = n + (j - n) by omega, it_add, it_round hp, Nat.add_sub_cancel_left]
          have e2 : st n q j = st n q (j - n) := by
            unfold st
            rw [show j = n + (j - n) by omega, it_add, it_round hq, Nat.add_sub_cancel_left]
          rw [e1, e2]
          exact ih _ (by omega)
    have hs : ∀ i, st n q i = st n p (d + i) := by
      intro i
      unfold st
      rw [it_add, hdq, hdir]
    have hk : ∀ k, pos (st n p (d * k)) ≠ pos (st n p (d * (k + 1))) ∧ (pos (st n p (d * k)) < pos (st n p (d * (k + 1))) ↔ pos p < pos q) := by
      intro k
      obtain ⟨k1, k2, _⟩ := D.strand hp hq hne (d * k) (fun j _ => hall j j (Nat.le_refl _))
      have e : d * (k + 1) = d + d * k := by rw [Nat.mul_succ, Nat.add_comm]
      rw [hs] at k1 k2
      rw [e]
      refine ⟨fun e => k1 (D.inj _ _ (it_lt hp _) (it_lt hp _) e), k2 ?_⟩
      rw [Nat.mul_mod, d0, Nat.zero_mul, Nat.zero_mod]
    have hend : st n p (d * n) = st n p (d * 0) := by
      rw [Nat.mul_comm]
      exact it_rounds hp d
    by_cases hl : pos p < pos q
    · have hm : ∀ k, pos (st n p (d * 0)) < pos (st n p (d * (k + 1))) := by
        intro k
        induction k with
        | zero => exact (hk 0).2.2 hl
        | succ k ih => exact Int.lt_trans ih ((hk (k + 1)).2.2 hl)
      have := hm (n - 1)
      rw [show n - 1 + 1 = n by omega, hend] at this
      omega
    · have hlt : ∀ k, pos (st n p (d * (k + 1))) < pos (st n p (d * k)) := by
        intro k
        have h1 := (hk k).1
        have h2 : ¬ pos (st n p (d * k)) < pos (st n p (d * (k + 1))) := fun q => hl ((hk k).2.1 q)
        omega
      have hm : ∀ k, pos (st n p (d * (k + 1))) < pos (st n p (d * 0)) := by
        intro k
        induction k with
        | zero => exact hlt 0
        | succ k ih => exact Int.lt_trans (hlt (k + 1)) ih
      have := hm (n - 1)
      rw [show n - 1 + 1 = n by omega, hend] at this
      omega
  · rcases Nat.mod_two_eq_zero_or_one p with p0 | p1
    · exact head_on D.even hp hq p0 (by omega) D.red h
    · exact head_on D.even hq hp (by omega) p1 D.red (fun j hj => (h j hj).symm)

/-- One letter lies before another one by its strand. -/
def Lt (n : Nat) (g : Nat → Int) (p q : Nat) : Prop :=
  ∃ k, 1 ≤ k ∧ k < n ∧ (∀ j, j < k → g (st n p j) = g (st n q j)) ∧
    ((k % 2 = 1 ∧ ahead (g (st n p (k - 1))) (g (st n q k)) < ahead (g (st n p (k - 1))) (g (st n p k))) ∨
     (k % 2 = 0 ∧ ahead (g (st n p (k - 1))) (g (st n p k)) < ahead (g (st n p (k - 1))) (g (st n q k))))

theorem Dr.lt_pos (D : Dr n g pos) {p q : Nat} (hp : p < n) (hq : q < n) (hne : p ≠ q) (h : Lt n g p q) : pos p < pos q := by
  obtain ⟨k, k1, kn, he, hk⟩ := h
  obtain ⟨s1, s2, s3⟩ := D.strand hp hq hne (k - 1) (fun j hj => he j (by omega))
  have lp : st n p (k - 1) < n := it_lt hp _
  have lq : st n q (k - 1) < n := it_lt hq _
  obtain ⟨t1, _, t3⟩ := D.step (bx := dir p) (bY := dir q) lp lq s1 (he (k - 1) (by omega)) (by rw [arc_par D.even hp, arc_par D.even hq])
  have ep : nx n (dir p) (st n p (k - 1)) = st n p k := by
    obtain ⟨m, rfl⟩ : ∃ m, k = m + 1 := ⟨k - 1, by omega⟩
    rfl
  have eq : nx n (dir q) (st n q (k - 1)) = st n q k := by
    obtain ⟨m, rfl⟩ : ∃ m, k = m + 1 := ⟨k - 1, by omega⟩
    rfl
  rw [ep, eq] at t3
  have hne2 : g (st n p k) ≠ g (st n q k) := by
    intro e
    rw [e] at hk
    omega
  have t4 := t3 hne2
  have ne1 : pos (st n p (k - 1)) ≠ pos (st n q (k - 1)) := fun e => s1 (D.inj _ _ lp lq e)
  rcases hk with ⟨ko, hk⟩ | ⟨ke, hk⟩
  · exact (s2 (by omega)).1 (t4.2 hk)
  · refine (s3 (by omega)).1 ?_
    have : ¬ pos (st n p (k - 1)) < pos (st n q (k - 1)) := fun q => by have := t4.1 q; omega
    omega

theorem Lt.trans {p q r : Nat} (h : Lt n g p q) (h' : Lt n g q r) : Lt n g p r := by
  obtain ⟨k, k1, kn, he, hk⟩ := h
  obtain ⟨k', k1', kn', he', hk'⟩ := h'
  rcases Nat.lt_trichotomy k k' with hl | rfl | hl
  · refine ⟨k, k1, kn, fun j hj => (he j hj).trans (he' j (by omega)), ?_⟩
    rw [← he' k hl]
    exact hk
  · refine ⟨k, k1, kn, fun j hj => (he j hj).trans (he' j hj), ?_⟩
    rw [← he (k - 1) (by omega)] at hk'
    omega
  · refine ⟨k', k1', kn', fun j hj => (he j (by omega)).trans (he' j hj), ?_⟩
    rw [he k' hl, he (k' - 1) (by omega)]
    exact hk'
theorem Lt.irrefl {p : Nat} (h : Lt n g p p) : False := by
  obtain ⟨k, _, _, _, hk⟩ := h
  omega
theorem Lt.gate {p q : Nat} (h : Lt n g p q) : g p = g q := by
  obtain ⟨k, k1, _, he, _⟩ := h
  exact he 0 (by omega)

end Go.Proofs.YtbbpockkafbfmaaDoor.Lw.Rk

namespace Go.Proofs.YtbbpockkafbfmaaDoor.Lw
open Go.RowKit

/-- The gates. -/
def gt (xs : List Int) (i : Nat) : Int := xs.getD i 0

theorem along_st {xs : List Int} {n p i : Nat} (hl : xs.length = n) (hp : p < n) (hi : i ≤ n) : Ln.along xs p i = gt xs (Rk.st n p i) := by
  unfold Ln.along gt Rk.st Ln.alongI
  rw [hl]
  by_cases h : p % 2 = 0
  · rw [if_pos h, show Rk.dir p = true by simp [Rk.dir, h], Rk.it_true hp]
  · rw [if_neg h, show Rk.dir p = false by simp [Rk.dir]; omega, Rk.it_false hp i hi]

theorem ahead_inj {f x y : Int} (_hf : 0 ≤ f ∧ f ≤ 40) (hx : 0 ≤ x ∧ x ≤ 40) (hy : 0 ≤ y ∧ y ≤ 40) (h : Rk.ahead f x = Rk.ahead f y) : x = y := by
  unfold Rk.ahead at h
  omega

theorem ord_spec {xs : List Int} {n p q : Nat} (hl : xs.length = n) (hp : p < n) (hq : q < n) (hr : ∀ x, x ∈ xs → 0 ≤ x ∧ x ≤ 40) : ∀ (r i : Nat) (side : Int), 1 ≤ i → i + r = n →
    (∀ j, j < i → gt xs (Rk.st n p j) = gt xs (Rk.st n q j)) → side = (if i % 2 = 1 then 1 else -1) →
    (ordM xs p q i r side = 0 ∧ ∀ j, j < n → gt xs (Rk.st n p j) = gt xs (Rk.st n q j)) ∨ (ordM xs p q i r side = -1 ∧ Rk.Lt n (gt xs) p q) ∨ (ordM xs p q i r side = 1 ∧ Rk.Lt n (gt xs) q p)
  | 0, i, side, h1, hn, he, _ => by
    refine .inl ⟨rfl, fun j hj => he j (by omega)⟩
  | r + 1, i, side, h1, hn, he, hs => by
    have ep := along_st hl hp (i := i) (by omega)
    have eq := along_st hl hq (i := i) (by omega)
    have ef := along_st hl hp (i := i - 1) (by omega)
    have hn0 : 0 < n := by omega
    rw [ordM]
    split
    · rename_i h
      rw [ep, eq] at h
      refine ord_spec hl hp hq hr r (i + 1) (-side) (by omega) (by omega) (fun j hj => ?_) ?_
      · rcases Nat.lt_or_ge j i with hj2 | hj2
        · exact he j hj2
        · obtain rfl : j = i := by omega
          exact h
      · rw [hs]; split <;> split <;> omega
    · rename_i h
      rw [ep, eq] at h
      have rp := hr _ (along_mem (xs := xs) (s := p) (i := i) hl hn0)
      have rq := hr _ (along_mem (xs := xs) (s := q) (i := i) hl hn0)
      have rf := hr _ (along_mem (xs := xs) (s := p) (i := i - 1) hl hn0)
      rw [ep] at rp ⊢
      rw [eq] at rq ⊢
      rw [ef] at rf ⊢
      have hff := he (i - 1) (by omega)
      have hne : aheadM (gt xs (Rk.st n p (i - 1))) (gt xs (Rk.st n q i)) ≠ aheadM (gt xs (Rk.st n p (i - 1))) (gt xs (Rk.st n p i)) := fun e => h (ahead_inj rf rq rp e).symm
      have hlt := fun c => (⟨i, h1, by omega, he, c⟩ : Rk.Lt n (gt xs) p q)
      have hgt := fun c => (⟨i, h1, by omega, fun j hj => (he j hj).symm, c⟩ : Rk.Lt n (gt xs) q p)
      rw [← hff] at hgt
      have ea : ∀ a b, aheadM a b = Rk.ahead a b := fun _ _ => rfl
      rw [ea, ea] at hne ⊢
      generalize Rk.ahead (gt xs (Rk.st n p (i - 1))) (gt xs (Rk.st n q i)) = aq at hne hlt hgt ⊢
      generalize Rk.ahead (gt xs (Rk.st n p (i - 1))) (gt xs (Rk.st n p i)) = ap at hne hlt hgt ⊢
      subst hs
      refine .inr ?_
      rcases Int.lt_or_gt_of_ne hne with hc | hc
      · have ec : Lib.compareInt aq ap = -1 := by unfold Lib.compareInt; rw [if_pos hc]
        rw [ec]
        split
        · rename_i hi; exact .inl ⟨by omega, hlt (.inl ⟨hi, hc⟩)⟩
        · rename_i hi; exact .inr ⟨by omega, hgt (.inr ⟨by omega, hc⟩)⟩
      · have ec : Lib.compareInt aq ap = 1 := by unfold Lib.compareInt; rw [if_neg (by omega), if_pos hc]
        rw [ec]
        split
        · rename_i hi; exact .inr ⟨by omega, hgt (.inl ⟨hi, hc⟩)⟩
        · rename_i hi; exact .inl ⟨by omega, hlt (.inr ⟨by omega, hc⟩)⟩

theorem order_spec {xs : List Int} {n p q : Nat} (hl : xs.length = n) (hp : p < n) (hq : q < n) (hr : ∀ x, x ∈ xs → 0 ≤ x ∧ x ≤ 40) (hg : gt xs p = gt xs q) :
    (orderM xs p q = 0 ∧ ∀ j, j < n → gt xs (Rk.st n p j) = gt xs (Rk.st n q j)) ∨ (orderM xs p q = -1 ∧ Rk.Lt n (gt xs) p q) ∨ (orderM xs p q = 1 ∧ Rk.Lt n (gt xs) q p) := by
  unfold orderM
  rw [hl]
  refine ord_spec hl hp hq hr (n - 1) 1 1 (Nat.le_refl _) (by omega) (fun j hj => ?_) rfl
  obtain rfl : j = 0 := by omega
  exact hg

end Go.Proofs.YtbbpockkafbfmaaDoor.Lw

namespace Go.Proofs.YtbbpockkafbfmaaDoor.Lw
open Go.RowKit

/-- How many of the first m numbers have a property. -/
def cnt (f : Nat → Bool) : Nat → Int
  | 0 => 0
  | m + 1 => cnt f m + if f m then 1 else 0
theorem cnt_nonneg (f : Nat → Bool) : ∀ m, 0 ≤ cnt f m
  | 0 => Int.le_refl _
  | m + 1 => by have := cnt_nonneg f m; rw [cnt]; split <;> omega
theorem cnt_mono {f h : Nat → Bool} : ∀ {m : Nat}, (∀ i, i < m → f i = true → h i = true) → cnt f m ≤ cnt h m
  | 0, _ => Int.le_refl _
  | m + 1, H => by
    have h1 := cnt_mono (f := f) (h := h) (m := m) (fun i hi => H i (by omega))
    have h2 := H m (by omega)
    rw [cnt, cnt]
    by_cases hf : f m = true
    · rw [if_pos hf, if_pos (h2 hf)]; omega
    · rw [if_neg hf]; split <;> omega
theorem cnt_congr {f h : Nat → Bool} {m : Nat} (H : ∀ i, i < m → f i = h i) : cnt f m = cnt h m := by
  have h1 := cnt_mono (f := f) (h := h) (m := m) (fun i hi e => by rw [← H i hi]; exact e)
  have h2 := cnt_mono (f := h) (h := f) (m := m) (fun i hi e => by rw [H i hi]; exact e)
  omega
theorem cnt_strict {f h : Nat → Bool} : ∀ {m : Nat}, (∀ i, i < m → f i = true → h i = true) → (∃ i, i < m ∧ f i = false ∧ h i = true) → cnt f m < cnt h m
  | 0, _, ⟨i, hi, _⟩ => by omega
  | m + 1, H, ⟨i, hi, hf, hh⟩ => by
    rw [cnt, cnt]
    by_cases e : i = m
    · subst e
      have h1 := cnt_mono (f := f) (h := h) (m := i) (fun j hj => H j (by omega))
      rw [hf, hh]
      simp only [Bool.false_eq_true, if_false, if_true]
      omega
    · have h1 := cnt_strict (f := f) (h := h) (m := m) (fun j hj => H j (by omega)) ⟨i, by omega, hf, hh⟩
      have h2 := H m (by omega)
      by_cases hm : f m = true
      · rw [if_pos hm, if_pos (h2 hm)]; omega
      · rw [if_neg hm]; split <;> omega

/-- The letter y comes before the letter x of its gate. -/
def bef (xs : List Int) (x y : Nat) : Bool :=
  decide (gt xs x = gt xs y) && (if y < x then decide (orderM xs x y = 1) else if x < y then decide (orderM xs y x = -1) else false)
theorem bef_self (xs : List Int) (x : Nat) : bef xs x x = false := by simp [bef]

theorem getD_set_self {r : List Int} {i : Nat} (hi : i < r.length) (v : Int) : (r.set i v).getD i 0 = v := by
  rw [List.getD_eq_getElem?_getD, List.getElem?_set_self hi]; rfl
theorem getD_set_ne {r : List Int} {i j : Nat} (h : i ≠ j) (v : Int) : (r.set i v).getD j 0 = r.getD j 0 := by
  rw [List.getD_eq_getElem?_getD, List.getElem?_set_ne h, ← List.getD_eq_getElem?_getD]

theorem innerM_spec {xs : List Int} {p n : Nat} {r0 : List Int} (hp : p < n) (h0 : r0.length = n) : ∀ (q : Nat) (r : List Int), q ≤ p → innerM xs p q r0 = some r →
    r.length = n ∧ (∀ b, b < q → gt xs p = gt xs b → orderM xs p b ≠ 0) ∧ ∀ x, x < n → r.getD x 0 = r0.getD x 0 + (if x = p then cnt (bef xs p) q else if x < q ∧ bef xs x p = true then 1 else 0)
  | 0, r, _, h => by
    injection h with h
    subst h
    refine ⟨h0, fun b hb => by omega, fun x _ => ?_⟩
    split
    · simp [cnt]
    · rw [if_neg (by omega)]; omega
  | q + 1, r, hq, h => by
    rw [innerM] at h
    cases hi : innerM xs p q r0 with
    | none => rw [hi] at h; cases h
    | some r' =>
      rw [hi, Option.bind_some] at h
      obtain ⟨l1, l2, l3⟩ := innerM_spec hp h0 q r' (by omega) hi
      have hbq : bef xs p q = (decide (gt xs p = gt xs q) && decide (orderM xs p q = 1)) := by unfold bef; rw [if_pos (by omega)]
      have hbp : bef xs q p = (decide (gt xs q = gt xs p) && decide (orderM xs p q = -1)) := by unfold bef; rw [if_neg (by omega), if_pos (by omega)]
      by_cases hg : xs.getD p 0 = xs.getD q 0
      · rw [if_pos hg] at h
        have hg1 : gt xs p = gt xs q := hg
        by_cases o1 : orderM xs p q = -1
        · rw [if_pos o1] at h
          injection h with h
          subst h
          refine ⟨by rw [List.length_set]; exact l1, fun b hb hgb => ?_, fun x hx => ?_⟩
          · by_cases e : b = q
            · subst e; omega
            · exact l2 b (by omega) hgb
          · have hbq2 : bef xs p q = false := by rw [hbq, o1]; simp
            have hbp2 : bef xs q p = true := by rw [hbp, o1]; simp [hg1]
            by_cases e : x = q
            · subst e
              rw [getD_set_self (by omega), l3 x hx, if_neg (by omega), if_neg (by omega), if_neg (by omega), if_pos ⟨by omega, hbp2⟩]
              omega
            · rw [getD_set_ne (fun c => e c.symm), l3 x hx]
              by_cases e2 : x = p
              · rw [if_pos e2, if_pos e2, cnt, hbq2]; simp
              · rw [if_neg e2, if_neg e2]
                by_cases e3 : x < q ∧ bef xs x p = true
                · rw [if_pos e3, if_pos ⟨by omega, e3.2⟩]
                · rw [if_neg e3, if_neg (fun c => e3 ⟨by omega, c.2⟩)]
        · rw [if_neg o1] at h
          by_cases o2 : orderM xs p q = 1
          · rw [if_pos o2] at h
            injection h with h
            subst h
            have hbq2 : bef xs p q = true := by rw [hbq, o2]; simp [hg1]
            have hbp2 : bef xs q p = false := by rw [hbp, o2]; simp
            refine ⟨by rw [List.length_set]; exact l1, fun b hb hgb => ?_, fun x hx => ?_⟩
            · by_cases e : b = q
              · subst e; omega
              · exact l2 b (by omega) hgb
            · by_cases e2 : x = p
              · subst e2
                rw [getD_set_self (by omega), l3 x hx, if_pos rfl, if_pos rfl, cnt, hbq2]
                simp only [if_true]
                omega
              · rw [getD_set_ne (fun c => e2 c.symm), l3 x hx, if_neg e2, if_neg e2]
                by_cases e3 : x < q ∧ bef xs x p = true
                · rw [if_pos e3, if_pos ⟨by omega, e3.2⟩]
                · rw [if_neg e3, if_neg (fun c => by
                    by_cases e : x = q
                    · subst e; rw [hbp2] at c; exact absurd c.2 (by simp)
                    · exact e3 ⟨by omega, c.2⟩)]
          · rw [if_neg o2] at h
            cases h
      · rw [if_neg hg] at h
        injection h with h
        subst h
        have hg1 : ¬ gt xs p = gt xs q := hg
        have hbq2 : bef xs p q = false := by rw [hbq]; simp [hg1]
        have hbp2 : bef xs q p = false := by
          have hc : ¬ gt xs q = gt xs p := fun c => hg1 c.symm
          rw [hbp]; simp [hc]
        refine ⟨l1, fun b hb hgb => ?_, fun x hx => ?_⟩
        · by_cases e : b = q
          · subst e; exact absurd hgb hg1
          · exact l2 b (by omega) hgb
        · rw [l3 x hx]
          by_cases e2 : x = p
          · rw [if_pos e2, if_pos e2, cnt, hbq2]; simp
          · rw [if_neg e2, if_neg e2]
            by_cases e3 : x < q ∧ bef xs x p = true
            · rw [if_pos e3, if_pos ⟨by omega, e3.2⟩]
            · rw [if_neg e3, if_neg (fun c => by
                by_cases e : x = q
                · subst e; rw [hbp2] at c; exact absurd c.2 (by simp)
                · exact e3 ⟨by omega, c.2⟩)]

theorem outerM_spec {xs : List Int} {n : Nat} (hl : xs.length = n) : ∀ (p : Nat) (r : List Int), p ≤ n → outerM xs p = some r →
    r.length = n ∧ (∀ a b, b < a → a < p → gt xs a = gt xs b → orderM xs a b ≠ 0) ∧ ∀ x, x < n → r.getD x 0 = if x < p then 1 + cnt (bef xs x) p else 0
  | 0, r, _, h => by
    injection h with h
    subst h
    refine ⟨by rw [List.length_replicate, hl], fun a b _ ha => by omega, fun x hx => ?_⟩
    rw [if_neg (by omega), List.getD_eq_getElem?_getD, List.getElem?_replicate, if_pos (by omega)]
    rfl
  | p + 1, r, hp, h => by
    rw [outerM] at h
    cases hi : outerM xs p with
    | none => rw [hi] at h; cases h
    | some r1 =>
      rw [hi, Option.bind_some] at h
      obtain ⟨l1, l2, l3⟩ := outerM_spec hl p r1 (by omega) hi
      obtain ⟨k1, k2, k3⟩ := innerM_spec (n := n) (by omega) (by rw [List.length_set]; exact l1) p r (Nat.le_refl _) h
      refine ⟨k1, fun a b hb ha hg => ?_, fun x hx => ?_⟩
      · by_cases e : a = p
        · subst e; exact k2 b hb hg
        · exact l2 a b hb (by omega) hg
      · rw [k3 x hx]
        by_cases e : x = p
        · subst e
          rw [if_pos rfl, if_pos (by omega), getD_set_self (by omega), l3 x hx, if_neg (by omega), cnt, bef_self]
          simp
        · rw [if_neg e, getD_set_ne (fun c => e c.symm), l3 x hx, cnt]
          by_cases e2 : x < p
          · rw [if_pos e2, if_pos (show x < p + 1 by omega)]
            by_cases e3 : bef xs x p = true
            · rw [if_pos ⟨e2, e3⟩, if_pos e3]; omega
            · rw [if_neg (fun c => e3 c.2), if_neg e3]; omega
          · rw [if_neg e2, if_neg (show ¬ (x < p ∧ bef xs x p = true) from fun c => e2 c.1), if_neg (show ¬ x < p + 1 by omega)]
            rfl

theorem innerM_some {xs : List Int} {p : Nat} {r0 : List Int} : ∀ (q : Nat), (∀ b, b < q → gt xs p = gt xs b → orderM xs p b = -1 ∨ orderM xs p b = 1) → ∃ r, innerM xs p q r0 = some r
  | 0, _ => ⟨r0, rfl⟩
  | q + 1, h => by
    obtain ⟨r, hr⟩ := innerM_some (xs := xs) (p := p) (r0 := r0) q (fun b hb => h b (by omega))
    rw [innerM, hr, Option.bind_some]
    by_cases hg : xs.getD p 0 = xs.getD q 0
    · rw [if_pos hg]
      rcases h q (by omega) hg with o | o
      · rw [if_pos o]; exact ⟨_, rfl⟩
      · rw [if_neg (by omega), if_pos o]; exact ⟨_, rfl⟩
    · rw [if_neg hg]; exact ⟨_, rfl⟩
theorem outerM_some {xs : List Int} : ∀ (p : Nat), (∀ a b, b < a → a < p → gt xs a = gt xs b → orderM xs a b = -1 ∨ orderM xs a b = 1) → ∃ r, outerM xs p = some r
  | 0, _ => ⟨_, rfl⟩
  | p + 1, h => by
    obtain ⟨r, hr⟩ := outerM_some (xs := xs) p (fun a b hb ha => h a b hb (by omega))
    rw [outerM, hr, Option.bind_some]
    exact innerM_some p (fun b hb => h p b hb (by omega))

end Go.Proofs.YtbbpockkafbfmaaDoor.Lw

namespace Go.Proofs.YtbbpockkafbfmaaDoor.Lw
open Go.RowKit

/-- These are the numbers from 1 on for each gate, each once. -/
def Rks (xs R : List Int) (n : Nat) : Prop :=
  R.length = n ∧ ∀ i, i < n → 1 ≤ gt R i ∧ gt R i ≤ cnt (fun j => decide (gt xs j = gt xs i)) n ∧ ∀ j, j < n → gt xs j = gt xs i → gt R j = gt R i → j = i

theorem cnt_false {f : Nat → Bool} : ∀ {m : Nat}, (∀ i, i < m → f i = false) → cnt f m = 0
  | 0, _ => rfl
  | m + 1, H => by
    rw [cnt, cnt_false (fun i hi => H i (by omega)), H m (by omega)]
    simp
theorem cnt_one {f h : Nat → Bool} : ∀ {m : Nat}, (∀ i j, i < m → j < m → f i = true → h i = false → f j = true → h j = false → i = j) → cnt f m ≤ cnt h m + 1
  | 0, _ => by simp [cnt]
  | m + 1, H => by
    rw [cnt, cnt]
    have h1 := cnt_one (f := f) (h := h) (m := m) (fun i j hi hj => H i j (by omega) (by omega))
    by_cases hf : f m = true
    · by_cases hh : h m = true
      · rw [if_pos hf, if_pos hh]; omega
      · have hh2 : h m = false := by simpa using hh
        have h2 : cnt f m ≤ cnt h m := cnt_mono (fun i hi hfi => by
          cases hhi : h i with
          | true => rfl
          | false =>
            have := H i m (by omega) (by omega) hfi hhi hf hh2
            omega)
        rw [if_pos hf, if_neg hh]
        omega
    · rw [if_neg hf]
      split <;> omega

theorem rank_count {xs R : List Int} {n : Nat} (h : Rks xs R n) {x : Nat} (hx : x < n) : gt R x = 1 + cnt (fun y => decide (gt xs y = gt xs x) && decide (gt R y < gt R x)) n := by
  obtain ⟨_, h⟩ := h
  have c0 : ∀ k : Nat, cnt (fun y => decide (gt xs y = gt xs x) && decide (gt R y < 1 + ((k + 1 : Nat) : Int))) n ≤ cnt (fun y => decide (gt xs y = gt xs x) && decide (gt R y < 1 + (k : Int))) n + 1 := by
    intro k
    refine cnt_one ?_
    intro i j hi hj fi hhi fj hhj
    simp only [Bool.and_eq_true, decide_eq_true_eq, Bool.and_eq_false_iff, decide_eq_false_iff_not] at fi fj hhi hhj
    obtain ⟨gi, ri⟩ := fi
    obtain ⟨gj, rj⟩ := fj
    have e1 : ¬ gt R i < 1 + (k : Int) := by rcases hhi with q | q; exact absurd gi q; exact q
    have e2 : ¬ gt R j < 1 + (k : Int) := by rcases hhj with q | q; exact absurd gj q; exact q
    exact (h j hj).2.2 i hi (gi.trans gj.symm) (by omega)
  obtain ⟨r1, r2, _⟩ := h x hx
  obtain ⟨m, hm⟩ : ∃ m : Nat, cnt (fun j => decide (gt xs j = gt xs x)) n = m := ⟨_, (Int.toNat_of_nonneg (cnt_nonneg _ _)).symm⟩
  rw [hm] at r2
  have cz : cnt (fun y => decide (gt xs y = gt xs x) && decide (gt R y < 1 + ((0 : Nat) : Int))) n = 0 := by
    refine cnt_false ?_
    intro i hi
    have := (h i hi).1
    simp only [Bool.and_eq_false_iff, decide_eq_false_iff_not]
    exact .inr (by omega)
  have cm : cnt (fun y => decide (gt xs y = gt xs x) && decide (gt R y < 1 + (m : Int))) n = m := by
    rw [← hm]
    refine cnt_congr ?_
    intro i hi
    by_cases e : gt xs i = gt xs x
    · have h1 := (h i hi).2.1
      have h2 : cnt (fun j => decide (gt xs j = gt xs i)) n = cnt (fun j => decide (gt xs j = gt xs x)) n := by rw [e]
      simp only [e, decide_true, Bool.true_and, decide_eq_true_eq]
      rw [h2] at h1
      omega
    · simp [e]
  have up : ∀ k : Nat, cnt (fun y => decide (gt xs y = gt xs x) && decide (gt R y < 1 + (k : Int))) n ≤ k := by
    intro k
    induction k with
    | zero => rw [cz]; exact Int.le_refl _
    | succ k ih => have := c0 k; omega
  have dn : ∀ j k : Nat, cnt (fun y => decide (gt xs y = gt xs x) && decide (gt R y < 1 + ((k + j : Nat) : Int))) n ≤ cnt (fun y => decide (gt xs y = gt xs x) && decide (gt R y < 1 + (k : Int))) n + j := by
    intro j k
    induction j with
    | zero => rw [Nat.add_zero]; omega
    | succ j ih => have := c0 (k + j); rw [← Nat.add_assoc]; omega
  obtain ⟨k, hk⟩ : ∃ k : Nat, gt R x = 1 + (k : Int) := ⟨(gt R x - 1).toNat, by omega⟩
  have h1 := up k
  have h2 := dn (m - k) k
  rw [show k + (m - k) = m by omega, cm] at h2
  rw [hk]
  omega

theorem gate_lt {xs : List Int} {n x y : Nat} (hl : xs.length = n) (hx : x < n) (hy : y < n) (hr : ∀ x, x ∈ xs → 0 ≤ x ∧ x ≤ 40) (hg : gt xs x = gt xs y) (h0 : orderM xs x y ≠ 0) :
    (orderM xs x y = -1 ∧ Rk.Lt n (gt xs) x y) ∨ (orderM xs x y = 1 ∧ Rk.Lt n (gt xs) y x) := by
  rcases order_spec hl hx hy hr hg with ⟨e, _⟩ | h | h
  · exact absurd e h0
  · exact .inl h
  · exact .inr h

/-- All strands part. -/
def Parted (xs : List Int) (n : Nat) : Prop := ∀ a b, b < a → a < n → gt xs a = gt xs b → orderM xs a b ≠ 0

theorem bef_iff {xs : List Int} {n x y : Nat} (hl : xs.length = n) (hP : Parted xs n) (hx : x < n) (hy : y < n) (hr : ∀ x, x ∈ xs → 0 ≤ x ∧ x ≤ 40) :
    bef xs x y = true ↔ gt xs x = gt xs y ∧ y ≠ x ∧ Rk.Lt n (gt xs) y x := by
  unfold bef
  rw [Bool.and_eq_true, decide_eq_true_eq]
  constructor
  · rintro ⟨hg, h⟩
    refine ⟨hg, ?_⟩
    by_cases e : y < x
    · rw [if_pos e, decide_eq_true_eq] at h
      refine ⟨by omega, ?_⟩
      rcases gate_lt hl hx hy hr hg (hP x y e hx hg) with ⟨o, _⟩ | ⟨_, q⟩
      · omega
      · exact q
    · rw [if_neg e] at h
      by_cases e2 : x < y
      · rw [if_pos e2, decide_eq_true_eq] at h
        refine ⟨by omega, ?_⟩
        rcases gate_lt hl hy hx hr hg.symm (hP y x e2 hy hg.symm) with ⟨_, q⟩ | ⟨o, _⟩
        · exact q
        · omega
      · rw [if_neg e2] at h
        cases h
  · rintro ⟨hg, hne, hlt⟩
    refine ⟨hg, ?_⟩
    by_cases e : y < x
    · rw [if_pos e, decide_eq_true_eq]
      rcases gate_lt hl hx hy hr hg (hP x y e hx hg) with ⟨_, q⟩ | ⟨o, _⟩
      · exact absurd (q.trans hlt) Rk.Lt.irrefl
      · exact o
    · rw [if_neg e, if_pos (by omega), decide_eq_true_eq]
      rcases gate_lt hl hy hx hr hg.symm (hP y x (by omega) hy hg.symm) with ⟨o, _⟩ | ⟨_, q⟩
      · exact o
      · exact absurd (q.trans hlt) Rk.Lt.irrefl

theorem gt_getD (r : List Int) (i : Nat) : gt r i = r.getD i 0 := rfl

/-- What onlyRanks computes are ranks. -/
theorem outer_ranks {xs r : List Int} {n : Nat} (hl : xs.length = n) (hr : ∀ x, x ∈ xs → 0 ≤ x ∧ x ≤ 40) (h : outerM xs n = some r) : Rks xs r n := by
  obtain ⟨h1, hP, h3⟩ := outerM_spec hl n r (Nat.le_refl _) h
  have hval : ∀ x, x < n → gt r x = 1 + cnt (bef xs x) n := fun x hx => by rw [gt_getD, h3 x hx, if_pos hx]
  have hstrict : ∀ a b, a < n → b < n → Rk.Lt n (gt xs) a b → a ≠ b → gt r a < gt r b := by
    intro a b ha hb hlt hne
    rw [hval a ha, hval b hb]
    have hg := hlt.gate
    have := cnt_strict (f := bef xs a) (h := bef xs b) (m := n) (fun y hy hf => by
      obtain ⟨g1, n1, l1⟩ := (bef_iff hl hP ha hy hr).1 hf
      refine (bef_iff hl hP hb hy hr).2 ⟨hg.symm.trans g1, ?_, l1.trans hlt⟩
      intro e
      subst e
      exact Rk.Lt.irrefl (l1.trans hlt)) ⟨a, ha, bef_self xs a, (bef_iff hl hP hb ha hr).2 ⟨hg.symm, hne, hlt⟩⟩
    omega
  refine ⟨h1, fun i hi => ⟨?_, ?_, fun j hj hg he => ?_⟩⟩
  · rw [hval i hi]
    have := cnt_nonneg (bef xs i) n
    omega
  · rw [hval i hi]
    have := cnt_strict (f := bef xs i) (h := fun j => decide (gt xs j = gt xs i)) (m := n) (fun y hy hf => by
      rw [decide_eq_true_eq]
      exact ((bef_iff hl hP hi hy hr).1 hf).1.symm) ⟨i, hi, bef_self xs i, by simp⟩
    omega
  · rcases Nat.lt_trichotomy j i with hc | hc | hc
    · rcases gate_lt hl hi hj hr hg.symm (hP i j hc hi hg.symm) with ⟨_, q⟩ | ⟨_, q⟩
      · have := hstrict i j hi hj q (by omega); omega
      · have := hstrict j i hj hi q (by omega); omega
    · exact hc
    · rcases gate_lt hl hj hi hr hg (hP j i hc hj hg) with ⟨_, q⟩ | ⟨_, q⟩
      · have := hstrict j i hj hi q (by omega); omega
      · have := hstrict i j hi hj q (by omega); omega

/-- The positions that ranks give. -/
def posOf (xs R : List Int) (i : Nat) : Int := gt xs i * 401 + gt R i

/-- If a word is drawn by some ranks, its strands part, and onlyRanks finds these ranks. -/
theorem drawn_only {xs R : List Int} {n : Nat} (hl : xs.length = n) (hr : ∀ x, x ∈ xs → 0 ≤ x ∧ x ≤ 40) (hR : Rks xs R n) (D : Rk.Dr n (gt xs) (posOf xs R)) : outerM xs n = some R := by
  have hP : ∀ a b, b < a → a < n → gt xs a = gt xs b → orderM xs a b = -1 ∨ orderM xs a b = 1 := by
    intro a b hb ha hg
    rcases order_spec hl ha (Nat.lt_trans hb ha) hr hg with ⟨_, h⟩ | h | h
    · exact absurd h (D.parts ha (Nat.lt_trans hb ha) (by omega))
    · exact .inl h.1
    · exact .inr h.1
  obtain ⟨r, h⟩ := outerM_some (xs := xs) n hP
  obtain ⟨h1, hP2, h3⟩ := outerM_spec hl n r (Nat.le_refl _) h
  have e : r = R := by
    apply List.ext_getElem?
    intro x
    rcases Nat.lt_or_ge x n with hx | hx
    · have hv : gt r x = gt R x := by
        rw [gt_getD, h3 x hx, if_pos hx, rank_count hR hx]
        congr 1
        refine cnt_congr ?_
        intro y hy
        rw [Bool.eq_iff_iff, bef_iff hl hP2 hx hy hr, Bool.and_eq_true, decide_eq_true_eq, decide_eq_true_eq]
        constructor
        · rintro ⟨hg, hne, hlt⟩
          have := D.lt_pos hy hx hne hlt
          unfold posOf at this
          rw [hg] at this
          exact ⟨hg.symm, by omega⟩
        · rintro ⟨hg, hlt⟩
          have hne : y ≠ x := fun e => by subst e; omega
          refine ⟨hg.symm, hne, ?_⟩
          rcases order_spec hl hy hx hr hg with ⟨_, q⟩ | ⟨_, q⟩ | ⟨_, q⟩
          · exact absurd q (D.parts hy hx hne)
          · exact q
          · have := D.lt_pos hx hy (fun e => hne e.symm) q
            unfold posOf at this
            rw [hg] at this
            omega
      unfold gt at hv
      rw [List.getD_eq_getElem?_getD, List.getD_eq_getElem?_getD, List.getElem?_eq_getElem (by omega), List.getElem?_eq_getElem (by rw [hR.1]; exact hx)] at hv
      rw [List.getElem?_eq_getElem (by omega), List.getElem?_eq_getElem (by rw [hR.1]; exact hx)]
      simpa using hv
    · rw [List.getElem?_eq_none (by omega), List.getElem?_eq_none (by rw [hR.1]; exact hx)]
  rw [h, e]

end Go.Proofs.YtbbpockkafbfmaaDoor.Lw
