/-
  The walk of the law CodeForgets.
-/
import Derived.Test.YtplpccgbciglpaaDoorVFor
import Derived.Test.YtplpccgbciglpaaDoorInsF
import Derived.Test.YtplpccgbciglpaaDoorLwF
import Derived.Test.YtplpccgbciglpaaDoorWordV
import Derived.Test.YtplpccgbciglpaaDoorLawH
import Derived.Test.YtplpccgbciglpaaDoorRefX
import Derived.Test.YtplpccgbciglpaaDoorDoorL
import Derived.Deep.RegionHeld3
namespace Go.Proofs.YtplpccgbciglpaaDoor
open Go.RowKit

/-! ## Pure -/
theorem wordG_forg (k q : Int) (ls : List Lt) : wordG (ls.map (forgL k q)) = Lw.dropL k (wordG ls) := by
  unfold wordG Lw.dropL
  rw [List.filter_map, List.map_map, List.map_map]
  have e : (isPass ∘ forgL k q) = isPass := by funext l; rfl
  rw [e]
  apply List.map_congr_left
  intro l hl
  have hp := (List.mem_filter.1 hl).2
  have hk : l.kind = 1 := by simpa [isPass] using hp
  show (if l.kind = 1 ∧ k ≤ l.gate then l.gate - 1 else l.gate) = if k ≤ l.gate then l.gate - 1 else l.gate
  simp [hk]
theorem word_validF {f : Int} {ls : List Lt} (hv : checkE f ls = 0) : Lw.validB f (wordG ls) = true ∧ Lw.validB 40 (wordG ls) = true := by
  obtain ⟨_, h3, _, hpl, _⟩ := checkE_all hv
  have h1 := wordG_len ls
  have h2 := (checkE_zero hv).1
  have hev : (wordG ls).length % 2 = 0 := by
    rcases Nat.eq_zero_or_pos ls.length with e | h0
    · obtain rfl : ls = [] := List.eq_nil_of_length_eq_zero e
      rfl
    · have h4 := even_of hv h0
      have h5 : cntB isPass ls = ((wordG ls).length : Int) := by
        unfold wordG
        rw [List.length_map]
        rfl
      omega
  have hr : ∀ g, g ∈ wordG ls → 0 ≤ g ∧ g ≤ f := by
    intro g hg
    unfold wordG at hg
    obtain ⟨l, hl, rfl⟩ := List.mem_map.1 hg
    obtain ⟨hl, hp⟩ := List.mem_filter.1 hl
    rcases hpl l hl with c | c
    · exact c.2.2.2.2
    · simp [isPass, c.1] at hp
  have key : ∀ k : Int, f ≤ k → k ≤ 40 → Lw.validB k (wordG ls) = true := by
    intro k h6 h7
    unfold Lw.validB
    simp only [Bool.and_eq_true, decide_eq_true_eq, List.all_eq_true]
    exact ⟨⟨⟨⟨by omega, h7⟩, by omega⟩, hev⟩, fun g hg => ⟨(hr g hg).1, by have := (hr g hg).2; omega⟩⟩
  exact ⟨key f (Int.le_refl _) h3.2, key 40 h3.2 (Int.le_refl _)⟩
theorem errF {k : Int} {xs : List Int} (h : Lw.validB k xs = true) : Lw.errB k xs = 0 := by
  have : xs.length ≤ 400 := by unfold Lw.validB at h; simp only [Bool.and_eq_true, decide_eq_true_eq] at h; exact h.1.1.2
  unfold Lw.errB
  rw [if_neg (by omega), if_pos h]
theorem checkE_rankG {f : Int} {ls : List Lt} (h : checkE f ls = 0) : ∀ l, l ∈ ls → l.kind = 1 → (0 ≤ l.gate ∧ l.gate ≤ 1000) ∧ 0 ≤ l.rank ∧ l.rank ≤ 1000000 := by
  obtain ⟨z1, z2, z3⟩ := checkE_zero h
  obtain ⟨_, st, ho⟩ := checkE_parts h
  intro l hl hk
  have hq := (ord_fine z3 ho l hl hk).1
  unfold passOk at hq
  have e2 := cntB_take_le (inGate l.gate) ls ls.length
  rw [List.take_of_length_le (Nat.le_refl _)] at e2
  omega

theorem idsF {f : Int} {L : List Lt} (hv : checkE f L = 0) : ∀ l, l ∈ L → I64 l.id := by
  obtain ⟨_, _, _, hpl, st, pt, _, hq, _⟩ := checkE_all hv
  intro l hl
  have h3 := (checkE_zero hv).1
  have h4 := cntK_take_le 2 L L.length
  rw [List.take_length] at h4
  rcases hpl l hl with c | c
  · rw [c.2.1]; constructor <;> decide
  · have h1 := pair_fine hq l hl c.1
    constructor <;> omega
theorem chkF {f : Int} {A : Option Addr} {n c : Nat} {L : List Lt} {w : World} (hv : checkE f L = 0) (hL : LS w A n L) (hA : ∀ b off, A = some ⟨b, off, none⟩ → b < w.heap.size) : ChkAt f A n c 0 w := by
  intro W hW
  have h := check_calls f A n c L W (hL.below hW) (fun b off e => Nat.lt_of_lt_of_le (hA b off e) hW.size) (idsF hv)
  rw [hv] at h
  exact h

/-! ## The calls -/
/-- A code with these letters, whose block is there. -/
def GrF (f : Int) (n : Nat) (L : List Lt) (w : World) (e : Ending) (w' : World) : Prop :=
  ∃ g, e = .returned (.tuple #[.agg #[.int .i64 f, .slice (some ⟨g, 0, none⟩) n n], .int .i64 0]) ∧ LS w' (some ⟨g, 0, none⟩) n L ∧ g < w'.heap.size ∧ Below w.heap.size w w'
theorem insert_ok (f g v : Int) (A : Option Addr) (n c : Nat) (ls : List Lt) (w : World) (hL : LS w A n ls) (hn : n ≤ 1000) (hf : 0 ≤ f ∧ f ≤ 40) (hp : ∀ l, l ∈ ls → plainL f l) (hrk : ∀ l, l ∈ ls → l.kind = 1 → 0 ≤ l.rank ∧ l.rank ≤ 1000000) (hC : ChkAt f A n c 0 w) (h0 : f ≠ 40) (h : (0 ≤ g ∧ g ≤ f) ∧ 0 ≤ v ∧ v ≤ cntB (inGate g) ls) :
    Calls Tryd.prog 18 #[.agg #[.int .i64 f, .slice A n c], .agg #[.int .i64 g, .int .i64 v]] w (OkF (f + 1) n (ls.map (insL g v)) w) := by
  obtain ⟨fn, rfl⟩ : ∃ fn : Nat, f = (fn : Int) := ⟨f.toNat, by omega⟩
  obtain ⟨G, rfl⟩ : ∃ G : Nat, g = (G : Int) := ⟨g.toNat, by omega⟩
  exact insert_f fn G v A n c ls w hL hn (by omega) (by omega) h.2.1 hp hrk h.2.2 hC

theorem placeB_true {f g v : Int} {ls : List Lt} (h : placeB f ls g v = true) : (0 ≤ g ∧ g ≤ f) ∧ 0 ≤ v ∧ v ≤ cntB (inGate g) ls := by
  unfold placeB at h
  simp at h
  exact ⟨⟨h.1.1.1, h.1.1.2⟩, h.1.2, h.2⟩

theorem insertF (f g v : Int) (A : Option Addr) (n c : Nat) (ls : List Lt) (w : World) (hL : LS w A n ls) (hA : ∀ b off, A = some ⟨b, off, none⟩ → b < w.heap.size) (hn : n ≤ 1000) (hv : checkE f ls = 0) (h0 : f ≠ 40) (h : placeB f ls g v = true) :
    Calls Tryd.prog 18 #[.agg #[.int .i64 f, .slice A n c], .agg #[.int .i64 g, .int .i64 v]] w (GrF (f + 1) n (ls.map (insL g v)) w) := by
  obtain ⟨z1, z2, z3⟩ := checkE_zero hv
  refine (insert_ok f g v A n c ls w hL hn z2 z3 (fun l hl hk => (checkE_rankG hv l hl hk).2) (chkF hv hL hA) h0 (placeB_true h)).mono ?_
  rintro e w' ⟨gL, rfl, ho, hb⟩
  exact ⟨gL, rfl, OwnL.ls ho (by rw [List.length_map]; exact hL.1), (World.ownsRow.lt ho gL rfl).2, hb⟩
theorem forgetF (f k : Int) (A : Option Addr) (n c : Nat) (ls : List Lt) (w : World) (hL : LS w A n ls) (hA : ∀ b off, A = some ⟨b, off, none⟩ → b < w.heap.size) (hv : checkE f ls = 0) (hk : 1 ≤ k ∧ k ≤ f) :
    Calls Tryd.prog 19 #[.agg #[.int .i64 f, .slice A n c], .int .i64 k] w (GrF (f - 1) n (ls.map (forgL k (cntB (inGate (k - 1)) ls))) w) := by
  refine (forget_calls f k A n c ls w hL hA (idsF hv) (fun l hl hk => (checkE_rankG hv l hl hk).2)).mono ?_
  rintro e w' (⟨h, _⟩ | ⟨_, h, _⟩ | ⟨_, _, g, rfl, ho, hb⟩)
  · exact absurd hv h
  · exact absurd hk h
  · have e : ls.length = n := hL.1
    rw [e] at ho ⊢
    exact ⟨g, rfl, OwnL.ls ho (by rw [List.length_map]; exact e), (World.ownsRow.lt ho g rfl).2, hb⟩
theorem checkF (f : Int) (A : Option Addr) (n c : Nat) (ls : List Lt) (w : World) (hL : LS w A n ls) (hA : ∀ b off, A = some ⟨b, off, none⟩ → b < w.heap.size) (hv : checkE f ls = 0) :
    Calls Tryd.prog 20 #[.agg #[.int .i64 f, .slice A n c]] w fun e w' => e = .returned (.int .i64 0) ∧ Below w.heap.size w w' := chkF hv hL hA w (Below.refl _ _)
def WoF (xs : List Int) (w : World) (e : Ending) (w' : World) : Prop :=
  ∃ A c, e = .returned (.tuple #[.slice A xs.length c, .int .i64 0]) ∧ SL w' A xs.length xs ∧ Below w.heap.size w w'
theorem wordF (f : Int) (A : Option Addr) (n c : Nat) (ls : List Lt) (w : World) (hL : LS w A n ls) (hA : ∀ b off, A = some ⟨b, off, none⟩ → b < w.heap.size) (hn : n ≤ 1000) (hv : checkE f ls = 0) :
    Calls Tryd.prog 22 #[.agg #[.int .i64 f, .slice A n c]] w (WoF (wordG ls) w) := by
  refine (codeWord_calls f A n c ls w hL hn (chkF hv hL hA)).mono ?_
  rintro e w' ⟨v, rfl, ho, hb⟩
  obtain ⟨A', c', rfl, hc, _⟩ := ho.form
  exact ⟨A', c', rfl, ho.sl, hb⟩
theorem lforgetF (f k : Int) (A : Option Addr) (n c : Nat) (ls : List Lt) (xs : List Int) (w : World) (h : SL w A n xs) (hx : xs = wordG ls) (hv : checkE f ls = 0) (hk : 1 ≤ k ∧ k ≤ f) :
    Calls Tryd.prog 23 #[.int .i64 f, .slice A n c, .int .i64 k] w (WoF (Ln.normal (Lw.dropL k xs)) w) := by
  have hl := h.1
  have h400 : xs.length ≤ 400 := by rw [hx]; have := wordG_len ls; have := (checkE_zero hv).1; omega
  refine (Lw.forget_calls f A n c xs k w h (by unfold maxLen; omega)).mono ?_
  have e0 : Lw.forgetErr f xs k = 0 := by
    unfold Lw.forgetErr
    rw [hx, errF (word_validF hv).1, if_neg (by simp), if_neg (by omega)]
  rintro e w' hp
  obtain ⟨A', c', rfl, ho, hc, hb⟩ := Lw.ErrPost.get_ok e0 rfl hp
  exact ⟨A', c', rfl, ho.sl, hb⟩
theorem lnormF (f : Int) (A : Option Addr) (n c : Nat) (ls : List Lt) (xs : List Int) (w : World) (h : SL w A n xs) (hx : xs = wordG ls) (hv : checkE f ls = 0) :
    Calls Tryd.prog 24 #[.slice A n c] w (WoF (Ln.normal xs) w) := by
  have hl := h.1
  have h400 : xs.length ≤ 400 := by rw [hx]; have := wordG_len ls; have := (checkE_zero hv).1; omega
  refine (Lw.normal_calls A n c xs w h (by unfold maxLen; omega)).mono ?_
  have e0 : Lw.errB 40 xs = 0 := by rw [hx]; exact errF (word_validF hv).2
  rintro e w' hp
  obtain ⟨A', c', rfl, ho, hc, hb⟩ := Lw.ErrPost.get_ok e0 rfl hp
  exact ⟨A', c', rfl, ho.sl, hb⟩

/-- Codes in their variables. -/
def BxF (n : Nat) (w : World) (bs : List (Nat × Int × Option Addr × Nat × List Lt)) (W : World) : Prop :=
  Below w.heap.size w W ∧ ∀ x, x ∈ bs → W.heap[x.1]? = some (.cells #[.int .i64 x.2.1, .slice x.2.2.1 n x.2.2.2.1] 24 (0, 0)) ∧ LS W x.2.2.1 n x.2.2.2.2 ∧ ∀ b off, x.2.2.1 = some ⟨b, off, none⟩ → b < W.heap.size
theorem BxF.below {n : Nat} {w W W' : World} {bs : List (Nat × Int × Option Addr × Nat × List Lt)} (h : BxF n w bs W) (hb : Below W.heap.size W W') : BxF n w bs W' :=
  ⟨h.1.trans (hb.mono h.1.size), fun x hx => ⟨(hb.block _ (heap_ltW (h.2 x hx).1)).trans (h.2 x hx).1, (h.2 x hx).2.1.below hb, fun b off e => Nat.lt_of_lt_of_le ((h.2 x hx).2.2 b off e) hb.size⟩⟩
theorem BxF.add {n : Nat} {w W : World} {bs : List (Nat × Int × Option Addr × Nat × List Lt)} (h : BxF n w bs W) (f : Int) (A : Option Addr) (c : Nat) (L : List Lt) (hL : LS W A n L) (hA : ∀ b off, A = some ⟨b, off, none⟩ → b < W.heap.size) :
    BxF n w ((W.heap.size, f, A, c, L) :: bs) (W.alloc (.cells #[.int .i64 f, .slice A n c] 24)) := by
  have hb : Below W.heap.size W (W.alloc (.cells #[.int .i64 f, .slice A n c] 24)) := (Below.refl _ _).alloc (Nat.le_refl _) _
  obtain ⟨h1, h2⟩ := h.below hb
  refine ⟨h1, fun x hx => ?_⟩
  rcases List.mem_cons.1 hx with rfl | hx
  · exact ⟨heap_alloc_new W _, hL.below hb, fun b off e => Nat.lt_of_lt_of_le (hA b off e) hb.size⟩
  · exact h2 x hx
theorem BxF.sub {n : Nat} {w W : World} {bs cs : List (Nat × Int × Option Addr × Nat × List Lt)} (h : BxF n w bs W) (hs : ∀ x, x ∈ cs → x ∈ bs) : BxF n w cs W := ⟨h.1, fun x hx => h.2 x (hs x hx)⟩

set_option maxHeartbeats 8000000 in
set_option maxRecDepth 100000 in
theorem codeForgets_big (f k g v : Int) (A : Option Addr) (n c : Nat) (w : World) (hn : ¬ n ≤ 60) (hT : ItoaAll w) :
    Calls Tryd.prog 5 #[.agg #[.int .i64 f, .slice A n c], .int .i64 k, .agg #[.int .i64 g, .int .i64 v]] w fun e w' => e = .returned (.bool true) ∧ Below w.heap.size w w' := by
  have HT := Lib.hid hT
  have t1 : decide ((n : Int) ≤ 60) = false := by rw [decide_eq_false_iff_not]; omega
  have HSM := Lib.hid (fun W => small_calls f A n c false W t1)
  clear hT hn
  go_enter Tryd.func5, Tryd.ntmps5
  go_wp2_with fail
  have HB0 : Hid (Below w.heap.size w ((w.alloc (.cells #[.int .i64 f, .slice A n c] 24)).alloc (.cells #[.int .i64 g, .int .i64 v] 41))) := ((Below.refl _ _).alloc (Nat.le_refl _) _).alloc (by simp) _
  refine (HSM.out _).mono ?_
  rintro e w1 ⟨rfl, hb⟩
  have HB1 : Hid (Below w.heap.size w w1) := HB0.out.trans (hb.mono HB0.out.size)
  clear hb
  go_wp2_with fail
  refine (known_calls _ (HT.out.below HB1.out)).mono ?_
  rintro e w2 ⟨rfl, hb⟩
  have HB2 : Hid (Below w.heap.size w w2) := HB1.out.trans (hb.mono HB1.out.size)
  clear hb
  go_wp2_with fail
  go_ret
  exact ⟨rfl, HB2.out⟩

set_option maxHeartbeats 8000000 in
set_option maxRecDepth 100000 in
theorem codeForgets_bad (f k g v : Int) (A : Option Addr) (n c : Nat) (ce : Int) (w : World) (hn : n ≤ 60) (hz : ce ≠ 0) (hRC : ∀ W, Below w.heap.size w W → Calls Tryd.prog 8 #[.agg #[.int .i64 f, .slice A n c]] W fun e w' => e = .returned (.int .i64 ce) ∧ Below W.heap.size W w') (hT : ItoaAll w) :
    Calls Tryd.prog 5 #[.agg #[.int .i64 f, .slice A n c], .int .i64 k, .agg #[.int .i64 g, .int .i64 v]] w fun e w' => e = .returned (.bool true) ∧ Below w.heap.size w w' := by
  have HT := Lib.hid hT
  have HRC := Lib.hid hRC
  have t1 : decide ((n : Int) ≤ 60) = true := by rw [decide_eq_true_iff]; omega
  have HSM := Lib.hid (fun W => small_calls f A n c true W t1)
  have hzb : (ce != 0) = true := by simp [hz]
  clear hT hn hRC
  go_enter Tryd.func5, Tryd.ntmps5
  go_wp2_with fail
  obtain ⟨W0, hW0⟩ : ∃ W0, W0 = (w.alloc (.cells #[.int .i64 f, .slice A n c] 24)).alloc (.cells #[.int .i64 g, .int .i64 v] 41) := ⟨_, rfl⟩
  have HM := Lib.hid (two_mem w _ _ W0 hW0)
  rw [← hW0]
  clear hW0
  refine (HSM.out _).mono ?_
  rintro e w1 ⟨rfl, hb⟩
  have HM1 := Lib.hid (two_next HM.out hb)
  have a0 := Lib.cell_of_heap HM1.out.1 0
  have a1 := Lib.cell_of_heap HM1.out.1 1
  clear hb
  go_wp2_with fail
  refine (HRC.out _ HM1.out.2.2.2).mono ?_
  rintro e w2 ⟨rfl, hb⟩
  have HM2 := Lib.hid (two_next HM1.out hb)
  clear hb a0 a1
  go_wp2_with fail
  refine (known_calls _ (HT.out.below HM2.out.2.2.2)).mono ?_
  rintro e w3 ⟨rfl, hb⟩
  have HB3 : Hid (Below w.heap.size w w3) := HM2.out.2.2.2.trans (hb.mono HM2.out.2.2.2.size)
  clear hb
  go_wp2_with fail
  go_ret
  exact ⟨rfl, HB3.out⟩

set_option maxHeartbeats 16000000 in
set_option maxRecDepth 100000 in
theorem codeForgets_main (f : Int) (A : Option Addr) (n c : Nat) (ls : List Lt) (k g v : Int) (w : World) (hn60 : n ≤ 60) (hL : LS w A n ls) (hv : checkE f ls = 0) (hA : ∀ b off, A = some ⟨b, off, none⟩ → b < w.heap.size)
    (hRC : ∀ W, Below w.heap.size w W → Calls Tryd.prog 8 #[.agg #[.int .i64 f, .slice A n c]] W fun e w' => e = .returned (.int .i64 0) ∧ Below W.heap.size W w')
    (hPL : ∀ W, Below w.heap.size w W → Calls Tryd.prog 17 #[.agg #[.int .i64 f, .slice A n c], .agg #[.int .i64 g, .int .i64 v]] W fun e w' => e = .returned (.bool (placeB f ls g v)) ∧ Below W.heap.size W w')
    (hT : ItoaAll w) :
    Calls Tryd.prog 5 #[.agg #[.int .i64 f, .slice A n c], .int .i64 k, .agg #[.int .i64 g, .int .i64 v]] w fun e w' => e = .returned (.bool true) ∧ Below w.heap.size w w' := by
  have HRC := Lib.hid hRC
  have HT := Lib.hid hT
  have HVc := Lib.hid hv
  have HPL := Lib.hid hPL
  have hle : n ≤ 1000000 := by omega
  have hn1 : n ≤ 1000 := by omega
  have HKN : Hid (∀ W, Below w.heap.size w W → Calls Tryd.prog 9 #[] W fun e w' => e = .returned (.bool true) ∧ Below W.heap.size W w') := fun W hW => known_calls W (HT.out.below hW)
  have t1 : decide ((n : Int) ≤ 60) = true := by rw [decide_eq_true_iff]; omega
  have HSM := Lib.hid (fun W => small_calls f A n c true W t1)
  have HLA := Lib.hid (And.intro hL hA)
  have hff := (checkE_zero hv).2.1
  clear hRC hT hn60 hL hA hv hPL
  go_enter Tryd.func5, Tryd.ntmps5
  go_wp2_with fail
  obtain ⟨W0, hW0⟩ : ∃ W0, W0 = (w.alloc (.cells #[.int .i64 f, .slice A n c] 24)).alloc (.cells #[.int .i64 g, .int .i64 v] 41) := ⟨_, rfl⟩
  have hM := two_mem w _ _ W0 hW0
  obtain ⟨P, hP⟩ : ∃ P, P = w.heap.size := ⟨_, rfl⟩
  obtain ⟨Q, hQ⟩ : ∃ Q, Q = w.heap.size + 1 := ⟨_, rfl⟩
  have HZ0 : Hid (BxF n w [(P, f, A, c, ls)] W0) := by
    refine ⟨hM.2.2.2, fun x hx => ?_⟩
    rw [List.mem_singleton] at hx
    subst hx
    exact ⟨by rw [hP]; exact hM.1, HLA.out.1.below hM.2.2.2, fun b off e => Nat.lt_of_lt_of_le (HLA.out.2 b off e) hM.2.2.2.size⟩
  have HQ0 : Hid (W0.heap[Q]? = some (.cells #[.int .i64 g, .int .i64 v] 41 (0, 0))) := by rw [hQ]; exact hM.2.1
  rw [← hW0, ← hQ, ← hP]
  clear hW0 hM hP hQ HLA
  refine (HSM.out _).mono ?_
  rintro e w1 ⟨rfl, hb⟩
  have HZ1 := Lib.hid (HZ0.out.below hb)
  have HQ1 : Hid (w1.heap[Q]? = some (.cells #[.int .i64 g, .int .i64 v] 41 (0, 0))) := (hb.block Q (heap_ltW HQ0.out)).trans HQ0.out
  clear hb HZ0 HQ0
  have a0 := Lib.cell_of_heap (HZ1.out.2 _ (.head _)).1 0
  have a1 := Lib.cell_of_heap (HZ1.out.2 _ (.head _)).1 1
  go_wp2_with fail
  refine (HRC.out _ HZ1.out.1).mono ?_
  rintro e w2 ⟨rfl, hb⟩
  have HZ2 := Lib.hid (HZ1.out.below hb)
  have HQ2 : Hid (w2.heap[Q]? = some (.cells #[.int .i64 g, .int .i64 v] 41 (0, 0))) := (hb.block Q (heap_ltW HQ1.out)).trans HQ1.out
  clear hb HZ1 HQ1 a0 a1
  have a0 := Lib.cell_of_heap (HZ2.out.2 _ (.head _)).1 0
  have a1 := Lib.cell_of_heap (HZ2.out.2 _ (.head _)).1 1
  have q0 := Lib.cell_of_heap HQ2.out 0
  have q1 := Lib.cell_of_heap HQ2.out 1
  go_wp2_with fail
  refine (HPL.out _ HZ2.out.1).mono ?_
  rintro e w3 ⟨rfl, hb⟩
  have HZ3 := Lib.hid (HZ2.out.below hb)
  have HQ3 : Hid (w3.heap[Q]? = some (.cells #[.int .i64 g, .int .i64 v] 41 (0, 0))) := (hb.block Q (heap_ltW HQ2.out)).trans HQ2.out
  clear hb HZ2 HQ2 a0 a1 q0 q1
  have a0 := Lib.cell_of_heap (HZ3.out.2 _ (.head _)).1 0
  have a1 := Lib.cell_of_heap (HZ3.out.2 _ (.head _)).1 1
  have q0 := Lib.cell_of_heap HQ3.out 0
  have q1 := Lib.cell_of_heap HQ3.out 1
  have hcase : (placeB f ls g v = true ∧ f ≠ 40) ∨ (placeB f ls g v = true ∧ f = 40) ∨ placeB f ls g v = false := by
    cases placeB f ls g v
    · exact .inr (.inr rfl)
    · by_cases h : f = 40
      · exact .inr (.inl ⟨rfl, h⟩)
      · exact .inl ⟨rfl, h⟩
  rcases hcase with ⟨hpb, hf4⟩ | ⟨hpb, hf4⟩ | hpb
  case' inl =>
    have HPB := Lib.hid hpb
    have hpt := placeB_true hpb
    have HPT := Lib.hid hpt
    have HF4 := Lib.hid hf4
    have hlt40 : f < 40 := by omega
    have hg0 := HPT.out.1.1
    have hg1 : g ≤ 40 := by have := HPT.out.1.2; omega
    rw [hpb]
    clear hpb hpt
    go_wp2_with fail
    refine (insertF f g v A n c ls w3 (HZ3.out.2 _ (.head _)).2.1 (HZ3.out.2 _ (.head _)).2.2 hn1 HVc.out HF4.out HPB.out).mono ?_
    rintro e u4 ⟨g4, rfl, hls, hgl, hb⟩
    obtain ⟨La, hLa⟩ : ∃ L, L = ls.map (insL g v) := ⟨_, rfl⟩
    rw [← hLa] at hls
    have HVa : Hid (checkE (f + 1) La = 0) := by rw [hLa]; exact valid_insert HVc.out HF4.out HPT.out.1.1 HPT.out.2.1 HPT.out.2.2
    have HFI : Hid (La.map (forgL (g + 1) (cntB (inGate (g + 1 - 1)) La)) = ls) := by rw [hLa]; exact forg_ins (refs_of HVc.out) HPT.out.2.1 HPT.out.2.2
    obtain ⟨X4, hX⟩ : ∃ B, B = u4.heap.size := ⟨_, rfl⟩
    obtain ⟨U4, hU⟩ : ∃ V, V = u4.alloc (.cells #[.int .i64 (f + 1), .slice (some ⟨g4, 0, none⟩) n n] 24) := ⟨_, rfl⟩
    have HZ4 := Lib.hid ((HZ3.out.below hb).add (f + 1) (some ⟨g4, 0, none⟩) n La hls (fun b off e => by cases e; exact hgl))
    have hbu : Below u4.heap.size u4 U4 := by rw [hU]; exact (Below.refl _ _).alloc (Nat.le_refl _) _
    have HQ4 : Hid (U4.heap[Q]? = some (.cells #[.int .i64 g, .int .i64 v] 41 (0, 0))) := (hbu.block Q (Nat.lt_of_lt_of_le (heap_ltW HQ3.out) hb.size)).trans ((hb.block Q (heap_ltW HQ3.out)).trans HQ3.out)
    rw [← hU, ← hX] at HZ4
    have HUE4 := Lib.hid hU
    have HXE4 := Lib.hid hX
    clear a0 a1 q0 q1
    have a0 := Lib.cell_of_heap (HZ4.out.2 _ (.head _)).1 0
    have a1 := Lib.cell_of_heap (HZ4.out.2 _ (.head _)).1 1
    have q0 := Lib.cell_of_heap HQ4.out 0
    have q1 := Lib.cell_of_heap HQ4.out 1
    dsimp only at a0 a1
    rw [hU] at a0 a1 q0 q1
    clear hls hgl hb hLa hU hX hbu HZ3 HQ3
    go_wp2_with fail
    rw [← HXE4.out, ← HUE4.out]
    refine (forgetF (f + 1) (g + 1) (some ⟨g4, 0, none⟩) n n La U4 (HZ4.out.2 _ (.head _)).2.1 (HZ4.out.2 _ (.head _)).2.2 HVa.out (by have := HPT.out.1; omega)).mono ?_
    rintro e u5 ⟨g5, rfl, hls, hgl, hb⟩
    have ef : f + 1 - 1 = f := by omega
    rw [HFI.out] at hls
    obtain ⟨X5, hX⟩ : ∃ B, B = u5.heap.size := ⟨_, rfl⟩
    obtain ⟨U5, hU⟩ : ∃ V, V = u5.alloc (.cells #[.int .i64 f, .slice (some ⟨g5, 0, none⟩) n n] 24) := ⟨_, rfl⟩
    have HZ5 := Lib.hid ((HZ4.out.below hb).add f (some ⟨g5, 0, none⟩) n ls hls (fun b off e => by cases e; exact hgl))
    rw [← hU, ← hX] at HZ5
    have HUE5 := Lib.hid hU
    have HXE5 := Lib.hid hX
    clear a0 a1 q0 q1
    have a0 := Lib.cell_of_heap (HZ5.out.2 _ (.tail _ (.head _))).1 0
    have a1 := Lib.cell_of_heap (HZ5.out.2 _ (.tail _ (.head _))).1 1
    dsimp only at a0 a1
    rw [hU] at a0 a1
    rw [ef]
    clear hls hgl hb hU hX HZ4 HQ4 ef
    go_wp2_with fail
    rw [← HXE5.out, ← HUE5.out]
    refine (checkF (f + 1) (some ⟨g4, 0, none⟩) n n La U5 (HZ5.out.2 _ (.tail _ (.head _))).2.1 (HZ5.out.2 _ (.tail _ (.head _))).2.2 HVa.out).mono ?_
    rintro e u6 ⟨rfl, hb⟩
    have HZ6 := Lib.hid (HZ5.out.below hb)
    clear hb HZ5 a0 a1
    have b0 := Lib.cell_of_heap (HZ6.out.2 _ (.head _)).1 0
    have b1 := Lib.cell_of_heap (HZ6.out.2 _ (.head _)).1 1
    have a0 := Lib.cell_of_heap (HZ6.out.2 _ (.tail _ (.tail _ (.head _)))).1 0
    have a1 := Lib.cell_of_heap (HZ6.out.2 _ (.tail _ (.tail _ (.head _)))).1 1
    dsimp only at a0 a1 b0 b1
    go_wp2_with fail
    refine (codeEq_yes f (some ⟨g5, 0, none⟩) A n n n c ls u6 (HZ6.out.2 _ (.head _)).2.1 (HZ6.out.2 _ (.tail _ (.tail _ (.head _)))).2.1 hle).mono ?_
    rintro e u7 ⟨rfl, hb⟩
    have HZm : Hid (BxF n w [(P, f, A, c, ls)] u7) := (HZ6.out.below hb).sub (fun x hx => by rw [List.mem_singleton] at hx; subst hx; exact .tail _ (.tail _ (.head _)))
    clear hb HZ6 a0 a1 b0 b1
  case' inr.inl =>
    rw [hpb]
    have hlt40 : ¬ f < 40 := by omega
    have HZm := HZ3
    clear hpb HZ3 HQ3 q0 q1 a1
    rename World => u7
    clear a0 hf4
  case' inr.inr =>
    rw [hpb]
    have HZm := HZ3
    clear hpb HZ3 HQ3 q0 q1 a1
    rename World => u7
    clear a0
  all_goals
    have a0 := Lib.cell_of_heap (HZm.out.2 _ (.head _)).1 0
    have a1 := Lib.cell_of_heap (HZm.out.2 _ (.head _)).1 1
    by_cases hkr : 1 ≤ k ∧ k ≤ f
    · have HKR := Lib.hid hkr
      have k1 : ¬ k < 1 := by omega
      have k2 : ¬ f < k := by omega
      clear hkr
      go_wp2_with fail
      refine (forgetF f k A n c ls u7 (HZm.out.2 _ (.head _)).2.1 (HZm.out.2 _ (.head _)).2.2 HVc.out HKR.out).mono ?_
      rintro e u8 ⟨g8, rfl, hls, hgl, hb⟩
      obtain ⟨Lf, hLf⟩ : ∃ L, L = ls.map (forgL k (cntB (inGate (k - 1)) ls)) := ⟨_, rfl⟩
      rw [← hLf] at hls
      have HVf : Hid (checkE (f - 1) Lf = 0) := by rw [hLf]; exact valid_forget HVc.out HKR.out.1 HKR.out.2
      have HWf : Hid (wordG Lf = Lw.dropL k (wordG ls)) := by rw [hLf]; exact wordG_forg k _ ls
      obtain ⟨X8, hX⟩ : ∃ B, B = u8.heap.size := ⟨_, rfl⟩
      obtain ⟨U8, hU⟩ : ∃ V, V = u8.alloc (.cells #[.int .i64 (f - 1), .slice (some ⟨g8, 0, none⟩) n n] 24) := ⟨_, rfl⟩
      have HZ8 := Lib.hid ((HZm.out.below hb).add (f - 1) (some ⟨g8, 0, none⟩) n Lf hls (fun b off e => by cases e; exact hgl))
      rw [← hU, ← hX] at HZ8
      have HUE8 := Lib.hid hU
      have HXE8 := Lib.hid hX
      clear a0 a1
      have a0 := Lib.cell_of_heap (HZ8.out.2 _ (.head _)).1 0
      have a1 := Lib.cell_of_heap (HZ8.out.2 _ (.head _)).1 1
      dsimp only at a0 a1
      rw [hU] at a0 a1
      clear hls hgl hb hLf hU hX HZm
      go_wp2_with fail
      rw [← HXE8.out, ← HUE8.out]
      refine (wordF (f - 1) (some ⟨g8, 0, none⟩) n n Lf U8 (HZ8.out.2 _ (.head _)).2.1 (HZ8.out.2 _ (.head _)).2.2 hn1 HVf.out).mono ?_
      rintro e U9 ⟨Aw, cw, rfl, hs, hb⟩
      obtain ⟨xw, hx⟩ : ∃ Y, Y = wordG Lf := ⟨_, rfl⟩
      rw [← hx] at hs ⊢
      have HXw := Lib.hid hx
      have HSw := Lib.hid hs
      have HZ9 := Lib.hid (HZ8.out.below hb)
      clear hs hx hb HZ8 a0 a1
      have a0 := Lib.cell_of_heap (HZ9.out.2 _ (.tail _ (.head _))).1 0
      have a1 := Lib.cell_of_heap (HZ9.out.2 _ (.tail _ (.head _))).1 1
      dsimp only at a0 a1
      go_wp2_with fail
      refine (wordF f A n c ls U9 (HZ9.out.2 _ (.tail _ (.head _))).2.1 (HZ9.out.2 _ (.tail _ (.head _))).2.2 hn1 HVc.out).mono ?_
      rintro e U10 ⟨Av, cv, rfl, hs, hb⟩
      obtain ⟨xv, hx⟩ : ∃ Y, Y = wordG ls := ⟨_, rfl⟩
      rw [← hx] at hs ⊢
      have HXv := Lib.hid hx
      have HSv := Lib.hid hs
      have HSw2 := Lib.hid (HSw.out.below hb)
      have HZ10 := Lib.hid (HZ9.out.below hb)
      clear hs hx hb HZ9 a0 a1 HSw
      have a0 := Lib.cell_of_heap (HZ10.out.2 _ (.tail _ (.head _))).1 0
      dsimp only at a0
      go_wp2_with fail
      refine (lforgetF f k Av xv.length cv ls xv U10 HSv.out HXv.out HVc.out HKR.out).mono ?_
      rintro e U11 ⟨Ax, cx, rfl, hs, hb⟩
      obtain ⟨xx, hx⟩ : ∃ Y, Y = Ln.normal (Lw.dropL k xv) := ⟨_, rfl⟩
      rw [← hx] at hs ⊢
      have HXx := Lib.hid hx
      have HSx := Lib.hid hs
      have HSw3 := Lib.hid (HSw2.out.below hb)
      have HZ11 := Lib.hid (HZ10.out.below hb)
      clear hs hx hb HZ10 a0 HSw2 HSv
      go_wp2_with fail
      refine (lnormF (f - 1) Aw xw.length cw Lf xw U11 HSw3.out HXw.out HVf.out).mono ?_
      rintro e U12 ⟨Ay, cy, rfl, hs, hb⟩
      obtain ⟨xy, hx⟩ : ∃ Y, Y = Ln.normal xw := ⟨_, rfl⟩
      rw [← hx] at hs ⊢
      have HXy := Lib.hid hx
      have HSy := Lib.hid hs
      have HSx2 := Lib.hid (HSx.out.below hb)
      have HZ12 := Lib.hid (HZ11.out.below hb)
      clear hs hx hb HZ11 HSw3 HSx
      have a0 := Lib.cell_of_heap (HZ12.out.2 _ (.head _)).1 0
      have a1 := Lib.cell_of_heap (HZ12.out.2 _ (.head _)).1 1
      dsimp only at a0 a1
      go_wp2_with fail
      refine (checkF (f - 1) (some ⟨g8, 0, none⟩) n n Lf U12 (HZ12.out.2 _ (.head _)).2.1 (HZ12.out.2 _ (.head _)).2.2 HVf.out).mono ?_
      rintro e U13 ⟨rfl, hb⟩
      have HZ13 := Lib.hid (HZ12.out.below hb)
      have HSx3 := Lib.hid (HSx2.out.below hb)
      have HSy2 := Lib.hid (HSy.out.below hb)
      clear hb HZ12 a0 a1 HSx2 HSy
      go_wp2_with fail
      have hq : xx = xy := by rw [HXx.out, HXy.out, HXw.out, HWf.out, HXv.out]
      have hml : xx.length ≤ maxLen := by
        have h1 := (Ln.length_normal (Lw.dropL k xv)).2
        rw [← HXx.out] at h1
        have h2 : (Lw.dropL k xv).length = xv.length := by unfold Lw.dropL; rw [List.length_map]
        have h3 := wordG_len ls
        rw [← HXv.out] at h3
        have h4 := (checkE_zero HVc.out).1
        unfold maxLen; omega
      refine (equalI_calls Ax Ay xx.length cx xy.length cy xx xy U13 HSx3.out HSy2.out hml).mono ?_
      rintro e U14 ⟨rfl, hb⟩
      rw [decide_eq_true hq]
      have HZ14 := Lib.hid (HZ13.out.below hb)
      clear hb HZ13
      go_wp2_with fail
      refine (HKN.out _ HZ14.out.1).mono ?_
      rintro e U15 ⟨rfl, hb⟩
      have HF : Hid (Below w.heap.size w U15) := HZ14.out.1.trans (hb.mono HZ14.out.1.size)
      clear hb
      go_wp2_with fail
      go_ret
      exact ⟨rfl, HF.out⟩
    · by_cases hk1 : k < 1
      · go_wp2_with fail
        refine (HKN.out _ HZm.out.1).mono ?_
        rintro e U15 ⟨rfl, hb⟩
        have HF : Hid (Below w.heap.size w U15) := HZm.out.1.trans (hb.mono HZm.out.1.size)
        clear hb
        go_wp2_with fail
        go_ret
        exact ⟨rfl, HF.out⟩
      · have hk2 : f < k := by omega
        go_wp2_with fail
        refine (HKN.out _ HZm.out.1).mono ?_
        rintro e U15 ⟨rfl, hb⟩
        have HF : Hid (Below w.heap.size w U15) := HZm.out.1.trans (hb.mono HZm.out.1.size)
        clear hb
        go_wp2_with fail
        go_ret
        exact ⟨rfl, HF.out⟩

theorem codeForgets_walk (f : Int) (A : Option Addr) (n c : Nat) (ls : List Lt) (k g v : Int) (w : World) (_hf : I64 f) (hL : LS w A n ls) (_hn : n ≤ maxLen) (_hI : ∀ l, l ∈ ls → LtAll l) (_hz : A = none → c = 0) (_hs : n ≤ c) (hA : ∀ b off, A = some ⟨b, off, none⟩ → b < w.heap.size) (_hsp : ∀ a, A = some a → a.spot = none) (_hk : I64 k) (_hg : I64 g) (_hv : I64 v) (hT : ItoaAll w) :
    Calls Tryd.prog 5 #[.agg #[.int .i64 f, .slice A n c], .int .i64 k, .agg #[.int .i64 g, .int .i64 v]] w fun e w' => e = .returned (.bool true) ∧ Below w.heap.size w w' := by
  by_cases hn : n ≤ 60
  · have hRC : ∀ W, Below w.heap.size w W → Calls Tryd.prog 8 #[.agg #[.int .i64 f, .slice A n c]] W fun e w' => e = .returned (.int .i64 (checkE f ls)) ∧ Below W.heap.size W w' :=
      fun W hW => refCheck_full f A n c ls W (hL.below hW)
    by_cases hv0 : checkE f ls = 0
    · rw [hv0] at hRC
      exact codeForgets_main f A n c ls k g v w hn hL hv0 hA hRC (fun W hW => place_calls f g v A n c ls W (hL.below hW) (by omega)) hT
    · exact codeForgets_bad f k g v A n c (checkE f ls) w hn hv0 hRC hT
  · exact codeForgets_big f k g v A n c w hn hT

end Go.Proofs.YtplpccgbciglpaaDoor
