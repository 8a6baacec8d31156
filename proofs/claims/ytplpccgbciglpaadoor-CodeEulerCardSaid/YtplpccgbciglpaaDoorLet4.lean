/-
  The walk of the reference's Equal of codes.
-/
import Derived.Test.YtplpccgbciglpaaDoorLet3
import Derived.Laws.StructEq
namespace Go.Proofs.YtplpccgbciglpaaDoor
open Go.RowKit

theorem Lt.ext {a b : Lt} (h1 : a.kind = b.kind) (h2 : a.gate = b.gate) (h3 : a.rank = b.rank) (h4 : a.id = b.id) (h5 : a.sign = b.sign) (h6 : a.over = b.over) : a = b := by
  cases a; cases b; simp_all
theorem Lt.ne_cases {a b : Lt} (h : a ≠ b) : a.kind ≠ b.kind ∨ (a.kind = b.kind ∧ a.gate ≠ b.gate) ∨ (a.kind = b.kind ∧ a.gate = b.gate ∧ a.rank ≠ b.rank) ∨ (a.kind = b.kind ∧ a.gate = b.gate ∧ a.rank = b.rank ∧ a.id ≠ b.id) ∨
    (a.kind = b.kind ∧ a.gate = b.gate ∧ a.rank = b.rank ∧ a.id = b.id ∧ a.sign ≠ b.sign) ∨ (a.kind = b.kind ∧ a.gate = b.gate ∧ a.rank = b.rank ∧ a.id = b.id ∧ a.sign = b.sign ∧ a.over ≠ b.over) := by
  by_cases h1 : a.kind = b.kind
  · by_cases h2 : a.gate = b.gate
    · by_cases h3 : a.rank = b.rank
      · by_cases h4 : a.id = b.id
        · by_cases h5 : a.sign = b.sign
          · by_cases h6 : a.over = b.over
            · exact absurd (Lt.ext h1 h2 h3 h4 h5 h6) h
            · exact .inr (.inr (.inr (.inr (.inr ⟨h1, h2, h3, h4, h5, h6⟩))))
          · exact .inr (.inr (.inr (.inr (.inl ⟨h1, h2, h3, h4, h5⟩))))
        · exact .inr (.inr (.inr (.inl ⟨h1, h2, h3, h4⟩)))
      · exact .inr (.inr (.inl ⟨h1, h2, h3⟩))
    · exact .inr (.inl ⟨h1, h2⟩)
  · exact .inl h1

def EqRel (ls ms : List Lt) (n : Nat) (w : World) (i : Value) (wr : World) : Prop := ∃ j q : Nat, j ≤ n ∧ i = .int .i64 j ∧ (∀ k, k < j → ls[k]? = ms[k]?) ∧ wr = w.drewN q
def EqPost (f1 f2 : Int) (ls ms : List Lt) (w : World) (e : Ending) (w' : World) : Prop := ∃ b, e = .returned (.bool b) ∧ (b = true ↔ f1 = f2 ∧ ls = ms) ∧ Below w.heap.size w w'
theorem EqPost.yes {f1 f2 : Int} {ls ms : List Lt} {w w' : World} (h : f1 = f2 ∧ ls = ms) (hb : Below w.heap.size w w') : EqPost f1 f2 ls ms w (.returned (.bool true)) w' := ⟨true, rfl, ⟨fun _ => h, fun _ => rfl⟩, hb⟩
theorem EqPost.no {f1 f2 : Int} {ls ms : List Lt} {w w' : World} (h : ¬ (f1 = f2 ∧ ls = ms)) (hb : Below w.heap.size w w') : EqPost f1 f2 ls ms w (.returned (.bool false)) w' := ⟨false, rfl, ⟨fun c => absurd c (by decide), fun c => absurd c h⟩, hb⟩

set_option maxHeartbeats 4000000 in
set_option maxRecDepth 100000 in
theorem codeEqual_calls (f1 f2 : Int) (A1 A2 : Option Addr) (n m c1 c2 : Nat) (ls ms : List Lt) (w : World) (h1 : LS w A1 n ls) (h2 : LS w A2 m ms) (hn : n ≤ 1000000) :
    Calls Tryd.prog 21 #[.agg #[.int .i64 f1, .slice A1 n c1], .agg #[.int .i64 f2, .slice A2 m c2]] w (EqPost f1 f2 ls ms w) := by
  have HL1 := Lib.hid h1.1
  have HL2 := Lib.hid h2.1
  have HB1 : Hid (Below w.heap.size w (w.alloc (.cells #[.int .i64 f1, .slice A1 n c1] 24))) := (Below.refl _ _).alloc (Nat.le_refl _) _
  have hx2 := Box.made (w.alloc (.cells #[.int .i64 f1, .slice A1 n c1] 24)) f2 A2 m c2 24
  have hb2 : Below (w.alloc (.cells #[.int .i64 f1, .slice A1 n c1] 24)).heap.size (w.alloc (.cells #[.int .i64 f1, .slice A1 n c1] 24)) ((w.alloc (.cells #[.int .i64 f1, .slice A1 n c1] 24)).alloc (.cells #[.int .i64 f2, .slice A2 m c2] 24)) := (Below.refl _ _).alloc (Nat.le_refl _) _
  have HX1 := Lib.hid ((Box.made w f1 A1 n c1 24).below hb2)
  have HX2 := Lib.hid hx2
  have HB := Lib.hid (HB1.out.trans (hb2.mono HB1.out.size))
  rw [World.size_alloc] at HX2
  clear hx2 hb2 HB1
  by_cases hf : f1 = f2
  · by_cases hnm : n = m
    · subst hf
      subst hnm
      go_enter Tryd.func21, Tryd.ntmps21
      go_wp2_with fail
      obtain ⟨W0, hW0⟩ : ∃ W0, W0 = (w.alloc (.cells #[.int .i64 f1, .slice A1 n c1] 24)).alloc (.cells #[.int .i64 f1, .slice A2 n c2] 24) := ⟨_, rfl⟩
      obtain ⟨P, hP⟩ : ∃ P, P = w.heap.size := ⟨_, rfl⟩
      obtain ⟨Q, hQ⟩ : ∃ Q, Q = w.heap.size + 1 := ⟨_, rfl⟩
      rw [← hW0] at HX1 HX2 HB ⊢
      rw [← hQ] at HX2 ⊢
      rw [← hP] at HX1 ⊢
      clear hW0 hP hQ
      obtain ⟨p0, p1, p2⟩ := HX1.out
      obtain ⟨q0, q1, q2⟩ := HX2.out
      go_loopw [5] (fun i wr => EqRel ls ms n W0 i wr) (fun i _ => n - (intOf i).toNat)
      case atStart => exact ⟨0, 0, Nat.zero_le _, rfl, fun k hk => by omega, rfl⟩
      case round =>
        obtain ⟨j, q, hj, rfl, hall, rfl⟩ := hrel
        have HALL := Lib.hid hall
        clear hall
        by_cases hlt : j < n
        · obtain ⟨b, off, l, rfl, hbl, hl, c0, c1, c2, c3, c4, c5⟩ := (h1.below HB.out).at_ hlt
          obtain ⟨b', off', l', rfl, hbl', hl', d0, d1, d2, d3, d4, d5⟩ := (h2.below HB.out).at_ hlt
          have hj1 : (j : Int) < n := by omega
          have HLL := Lib.hid hl
          have HLM := Lib.hid hl'
          clear hl hl'
          by_cases he : l = l'
          · subst he
            go_wp2_with fail
            go_quiet (fail)
            go_wp2_with fail
            go_roundw
            case rel => exact ⟨j + 1, _, by omega, by rw [Int.natCast_add]; rfl, fun k hk => by
              by_cases e : k = j
              · subst e; rw [HLL.out, HLM.out]
              · exact HALL.out k (by omega), rfl⟩
            case measure => simp [intOf]; omega
          · have HNO : Hid (¬ ls = ms) := fun c => he (by
              have h1 := HLL.out
              rw [c, HLM.out] at h1
              injection h1 with h1
              exact h1.symm)
            rcases Lt.ne_cases he with e | ⟨e1, e⟩ | ⟨e1, e2, e⟩ | ⟨e1, e2, e3, e⟩ | ⟨e1, e2, e3, e4, e⟩ | ⟨e1, e2, e3, e4, e5, e⟩
            all_goals
              clear he
              go_wp2_with fail
              go_quiet (fail)
              go_wp2_with fail
              go_ret
              exact EqPost.no (fun c => HNO.out c.2) (by first | exact below_drewN HB.out _ | exact below_drewN (below_drewN HB.out _) _)
        · obtain rfl : j = n := by omega
          go_wp2_with fail
          go_ret
          refine EqPost.yes ⟨rfl, ?_⟩ (below_drewN HB.out _)
          apply List.ext_getElem?
          intro k
          rcases Nat.lt_or_ge k j with c | c
          · exact HALL.out k c
          · rw [List.getElem?_eq_none (by rw [HL1.out]; exact c), List.getElem?_eq_none (by rw [HL2.out]; exact c)]
    · have hne : ¬ (n : Int) = (m : Int) := by omega
      have hbe : ((n : Int) != (m : Int)) = true := by rw [bne_iff_ne]; exact hne
      have HNO : Hid (¬ ls = ms) := fun c => hnm (by rw [← HL1.out, ← HL2.out, c])
      subst hf
      clear hnm hne
      go_enter Tryd.func21, Tryd.ntmps21
      go_wp2_with fail
      go_ret
      exact EqPost.no (fun c => HNO.out c.2) HB.out
  · have hbe : (f1 != f2) = true := by rw [bne_iff_ne]; exact hf
    have HNO : Hid (¬ (f1 = f2 ∧ ls = ms)) := fun c => hf c.1
    go_enter Tryd.func21, Tryd.ntmps21
    go_wp2_with fail
    go_ret
    exact EqPost.no HNO.out HB.out

end Go.Proofs.YtplpccgbciglpaaDoor
