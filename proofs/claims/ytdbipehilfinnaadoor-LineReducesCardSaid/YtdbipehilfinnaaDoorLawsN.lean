/-
  The walk of the law LineReduces over the empty word.
-/
import Derived.Test.YtdbipehilfinnaaDoorRedH
namespace Go.Proofs.YtdbipehilfinnaaDoor
open Go.RowKit

/-- An append of a nil slice, as a step of a region that draws. -/
theorem step_append_none {w : World} {ops : Array Oper} {o : Oper} {a : Act} {K : Act → World → Prop} {Q : Exit → Act → World → Prop} {E : Prop} (hgd : o.guard = none) (s x : Operand)
    (ho : o.op = .call { callee := .builtin .append, args := #[s, x], argTypes := #[22, 22] })
    (B : Nat) (v : Value) (xs : List Int) (hs : a.eval s = v) (hown : OwnI w B v xs) (hx : a.eval x = .slice none 0 0) (h : K (a.put o.dst v) w) :
    if Region.wanted o (yielded ops a.tmps) = true then Oper.wp Tryd.prog o a w K Q else E := by
  have hw : Region.wanted o (yielded ops a.tmps) = true := by simp [Region.wanted, hgd]
  rw [if_pos hw]
  obtain ⟨i0, hi, hz0, hz1, hz2⟩ := info_parts infoInt
  have hr := run_append_owned_none (P := Tryd.prog) (w := w) B 22 o.type 3 i0 1 Tryd.underlying22 hi v xs.length (xs.map (Value.int .i64)) hown
  unfold Oper.wp execOp
  simp only [ho, resolve, invoke, builtin, Sem.run_bind, Sem.run_pure, Result.andThen_ok, List.map_toArray, List.map_cons, List.map_nil, hs, hx, hr]
  exact h

set_option maxHeartbeats 16000000 in
set_option maxRecDepth 100000 in
theorem lineReduces_empty_none (g : Int) (w : World) (g0 : 0 ≤ g) (g1 : g ≤ 40) :
    Calls Tryd.prog 6 #[.slice none 0 0, .int .i64 ((0 : Nat) : Int), .int .i64 g] w fun e w' => e = .returned (.bool true) ∧ Below w.heap.size w w' := by
  have hsl : SL w none 0 [] := SL.nil w _
  have hv : validB 40 [] = true := by decide
  have hn : 0 ≤ maxLen := Nat.zero_le _
  have HL := Lib.hid hsl.1
  have HN := Lib.hid hn
  have HW := Lib.hid (word_calls none 0 0 [] w hsl hn)
  have HV := Lib.hid hv
  have H := Lib.hid (Held.start hsl)
  have HXV := Lib.hid (validB_normal hv)
  have HXR := Lib.hid (reducedB_normal hv)
  have HXN := Lib.hid (Ln.normal_normal [] (validB_iff.1 hv).2.2.2.1)
  have n3 : 0 ≤ 398 := by omega
  have a0 : (0 : Int) ≤ ((0 : Nat) : Int) := by omega
  have a1 : ((0 : Nat) : Int) ≤ ((0 : Nat) : Int) + 1 := by omega
  have hat : ((0 : Nat) : Int) ≤ ((0 : Nat) : Int) := by omega
  have hmc : ((0 : Nat) : Int) ≤ ((0 : Nat) : Int) := by omega
  clear hsl hv hn
  have hmv := validB_insert 0 HV.out (by simp) g0 g1
  have hmn2 := Ln.normal_pair [] [] g
  obtain ⟨ms, hms⟩ : ∃ ms, [g, g] = ms := ⟨_, rfl⟩
  have HMSN : Hid ([] ++ [g, g] = ms) := hms
  have HMS : Hid (([] ++ []) ++ [g, g] ++ [] = ms) := by unfold Hid; rw [← hms]; rfl
  rw [show ([] : List Int).take 0 ++ g :: g :: ([] : List Int).drop 0 = ms from hms] at hmv
  rw [show ([] : List Int) ++ g :: g :: [] = ms from hms, List.nil_append] at hmn2
  have HMV := Lib.hid hmv
  have HMN := Lib.hid hmn2
  clear hmv hmn2 hms
  have hnil : OwnI w.drew w.heap.size (.slice none 0 0) [] := World.ownsRow_nil _ _ _ _
  have hnil2 : ∀ o, OwnI (w.drew.alloc o) w.heap.size (.slice none 0 0) [] := fun _ => World.ownsRow_nil _ _ _ _
  have hB0 : ∀ o, Below w.heap.size w (w.drew.alloc o) := fun o => ((Below.refl w.heap.size w).drew).alloc (Nat.le_refl _) o
  have HN0 := Lib.hid hnil
  have HN1 := Lib.hid hnil2
  have HB0 := Lib.hid hB0
  clear hnil hnil2 hB0
  go_enter Tryd.func6, Tryd.ntmps6
  go_wp2_with (go_at_call 25; refine HW.out.mono ?_; rw [HV.out]; rintro e w' ⟨rfl, rfl⟩)
  go_cut [7] (fun v wx => OwnI wx w.heap.size v ms ∧ Below w.heap.size w wx)
  case first =>
    go_region_law (first
    | ((refine step_append_none rfl (.tmp 65) (.tmp 68) rfl w.heap.size (.slice none 0 0) [] (by kernel_rfl) (HN0.out) (by kernel_rfl) ?_); have K1 := Lib.hid (And.intro HN0.out ((Below.refl w.heap.size w).drew)))
    | ((refine step_append_none rfl (.tmp 65) (.tmp 68) rfl w.heap.size (.slice none 0 0) [] (by kernel_rfl) (HN1.out _) (by kernel_rfl) ?_); have J1 := Lib.hid (And.intro (HN1.out (.cells #[.int .i64 g, .int .i64 g] 3)) (HB0.out (.cells #[.int .i64 g, .int .i64 g] 3))))
    | ((refine step_append_ints rfl (.tmp 69) (.tmp 72) rfl w.heap.size (.slice none 0 0) [] (by kernel_rfl) (HN1.out _) ⟨w.heap.size, 0, none⟩ 2 2 [g, g] (by kernel_rfl) (sl_two w.drew g g) (by simp) (by simp) ?_); intro v2 w2 hown2 hg2; have hB2 : Below w.heap.size w w2 := (HB0.out _).grown hg2 (by simp) (fun k hk => by cases hk); have K2 := Lib.hid (And.intro hown2 hB2); clear hown2 hg2 hB2)
    | ((refine step_append_none rfl (.tmp 73) (.tmp 76) rfl w.heap.size v2 ([] ++ [g, g]) (by kernel_rfl) K2.out.1 (by kernel_rfl) ?_); have K3 := K2))
    all_goals
      go_wp2_with fail
      go_meet
      case rel => exact ⟨by rw [← HMSN.out]; exact K3.out.1, K3.out.2⟩
  case rest =>
    obtain ⟨hownc, hbc⟩ := hcut
    obtain ⟨Am, cm, rfl, _, _⟩ := hownc.form
    have H := Lib.hid (H.out.add hbc hownc.sl)
    clear hownc hbc
    go_wp2_with fail
    refine (lineNormal_ok 0 (H.out.get 1 rfl) HN.out HV.out).mono ?_
    rintro e w1 ⟨A1, c1, rfl, s1, _, hb1⟩
    have H := Lib.hid (H.out.add hb1 s1)
    clear s1 hb1
    go_wp2_with fail
    refine (lineNormal_ok cm (H.out.get 1 rfl) (lenV HMV.out) HMV.out).mono ?_
    rintro e w2 ⟨A2, c2, rfl, s2, _, hb2⟩
    have H := Lib.hid (H.out.add hb2 s2)
    clear s2 hb2
    go_wp2_with fail
    refine (lineNormal_ok c1 (H.out.get 1 rfl) (lenV HXV.out) HXV.out).mono ?_
    rintro e w3 ⟨A3, c3, rfl, s3, _, hb3⟩
    have H := Lib.hid (H.out.add hb3 s3)
    clear s3 hb3
    go_wp2_with fail
    refine (same_yes 0 cm (H.out.get 4 rfl) (H.out.get 3 rfl) HN.out (lenV HMV.out) HV.out HMV.out HMN.out).mono ?_
    rintro e w4 ⟨rfl, hb4⟩
    have H := Lib.hid (H.out.step hb4)
    clear hb4
    have HRD := Lib.hid (reduced_calls A1 _ c1 _ w4 (H.out.get 2 rfl) (lenV HXV.out))
    go_wp2_with (go_at_call 17; refine HRD.out.mono ?_; rw [HXR.out]; rintro e w' ⟨rfl, rfl⟩)
    refine (eq_ok c1 c2 (H.out.get 2 rfl) (H.out.get 1 rfl) (lenV HXV.out) HMN.out.symm).mono ?_
    rintro e w5 ⟨rfl, hb5⟩
    have H := Lib.hid (H.out.step hb5)
    clear hb5
    go_wp2_with fail
    refine (eq_ok c1 c3 (H.out.get 2 rfl) (H.out.get 0 rfl) (lenV HXV.out) HXN.out.symm).mono ?_
    rintro e w6 ⟨rfl, hb6⟩
    have H := Lib.hid (H.out.step hb6)
    clear hb6
    go_wp2_with fail
    refine (known_after H.out.1).mono ?_
    rintro e wz ⟨rfl, hz⟩
    go_wp2_with fail
    go_ret
    exact ⟨rfl, hz⟩

set_option maxHeartbeats 16000000 in
set_option maxRecDepth 100000 in
theorem lineReduces_empty_some (ad : Addr) (cap : Nat) (g : Int) (w : World) (g0 : 0 ≤ g) (g1 : g ≤ 40) :
    Calls Tryd.prog 6 #[.slice (some ad) 0 cap, .int .i64 ((0 : Nat) : Int), .int .i64 g] w fun e w' => e = .returned (.bool true) ∧ Below w.heap.size w w' := by
  have hsl : SL w (some ad) 0 [] := SL.nil w _
  have hv : validB 40 [] = true := by decide
  have hn : 0 ≤ maxLen := Nat.zero_le _
  have HL := Lib.hid hsl.1
  have HN := Lib.hid hn
  have HW := Lib.hid (word_calls (some ad) 0 cap [] w hsl hn)
  have HV := Lib.hid hv
  have H := Lib.hid (Held.start hsl)
  have HXV := Lib.hid (validB_normal hv)
  have HXR := Lib.hid (reducedB_normal hv)
  have HXN := Lib.hid (Ln.normal_normal [] (validB_iff.1 hv).2.2.2.1)
  have n3 : 0 ≤ 398 := by omega
  have a0 : (0 : Int) ≤ ((0 : Nat) : Int) := by omega
  have a1 : ((0 : Nat) : Int) ≤ ((0 : Nat) : Int) + 1 := by omega
  have hat : ((0 : Nat) : Int) ≤ ((0 : Nat) : Int) := by omega
  have hmc : ((0 : Nat) : Int) ≤ ((cap : Nat) : Int) := by omega
  clear hsl hv hn
  have hmv := validB_insert 0 HV.out (by simp) g0 g1
  have hmn2 := Ln.normal_pair [] [] g
  obtain ⟨ms, hms⟩ : ∃ ms, [g, g] = ms := ⟨_, rfl⟩
  have HMSN : Hid ([] ++ [g, g] = ms) := hms
  have HMS : Hid (([] ++ []) ++ [g, g] ++ [] = ms) := by unfold Hid; rw [← hms]; rfl
  rw [show ([] : List Int).take 0 ++ g :: g :: ([] : List Int).drop 0 = ms from hms] at hmv
  rw [show ([] : List Int) ++ g :: g :: [] = ms from hms, List.nil_append] at hmn2
  have HMV := Lib.hid hmv
  have HMN := Lib.hid hmn2
  clear hmv hmn2 hms
  have hnil : OwnI w.drew w.heap.size (.slice none 0 0) [] := World.ownsRow_nil _ _ _ _
  have hnil2 : ∀ o, OwnI (w.drew.alloc o) w.heap.size (.slice none 0 0) [] := fun _ => World.ownsRow_nil _ _ _ _
  have hB0 : ∀ o, Below w.heap.size w (w.drew.alloc o) := fun o => ((Below.refl w.heap.size w).drew).alloc (Nat.le_refl _) o
  have HN0 := Lib.hid hnil
  have HN1 := Lib.hid hnil2
  have HB0 := Lib.hid hB0
  clear hnil hnil2 hB0
  go_enter Tryd.func6, Tryd.ntmps6
  go_wp2_with (go_at_call 25; refine HW.out.mono ?_; rw [HV.out]; rintro e w' ⟨rfl, rfl⟩)
  go_cut [7] (fun v wx => OwnI wx w.heap.size v ms ∧ Below w.heap.size w wx)
  case first =>
    go_region_law (first
    | ((refine step_append_ints rfl (.tmp 65) (.tmp 68) rfl w.heap.size (.slice none 0 0) [] (by kernel_rfl) HN0.out ad 0 cap [] (by kernel_rfl) (SL.nil _ _) (by decide) (Nat.le_refl _) ?_); intro v1 w1 hown1 hg1; have hB1 : Below w.heap.size w w1 := ((Below.refl w.heap.size w).drew).grown hg1 (Nat.le_refl _) (fun k hk => by cases hk); have K1 := Lib.hid (And.intro hown1 hB1); clear hown1 hg1 hB1)
    | ((refine step_append_ints rfl (.tmp 69) (.tmp 72) rfl w.heap.size v1 ([] ++ []) (by kernel_rfl) (K1.out.1.below ((Below.refl _ w1).alloc (Nat.le_refl _) _)) ⟨w1.heap.size, 0, none⟩ 2 2 [g, g] (by kernel_rfl) (sl_two w1 g g) (by simp) (Nat.le_trans K1.out.2.size (by simp)) ?_); intro v2 w2 hown2 hg2; have hB2 : Below w.heap.size w w2 := (K1.out.2.alloc K1.out.2.size _).grown hg2 (Nat.le_trans K1.out.2.size (by simp)) (fun k hk => (K1.out.1.lt k hk).1); have K2 := Lib.hid (And.intro hown2 hB2); clear hown2 hg2 hB2)
    | ((refine step_append_ints rfl (.tmp 65) (.tmp 68) rfl w.heap.size (.slice none 0 0) [] (by kernel_rfl) (HN1.out _) ad 0 cap [] (by kernel_rfl) (SL.nil _ _) (by decide) (by simp) ?_); intro v1 w1 hown1 hg1; have hGG := (sl_two w.drew g g).below ((Below.refl _ _).grown hg1 (Nat.le_refl _) (fun k hk => by cases hk)); have hB1 : Below w.heap.size w w1 := (HB0.out _).grown hg1 (by simp) (fun k hk => by cases hk); have J1 := Lib.hid (And.intro hown1 (And.intro hB1 hGG)); clear hown1 hg1 hB1 hGG)
    | ((refine step_append_ints rfl (.tmp 69) (.tmp 72) rfl w.heap.size v1 ([] ++ []) (by kernel_rfl) J1.out.1 ⟨w.heap.size, 0, none⟩ 2 2 [g, g] (by kernel_rfl) J1.out.2.2 (by simp) J1.out.2.1.size ?_); intro v2 w2 hown2 hg2; have hB2 : Below w.heap.size w w2 := J1.out.2.1.grown hg2 J1.out.2.1.size (fun k hk => (J1.out.1.lt k hk).1); have K2 := Lib.hid (And.intro hown2 hB2); clear hown2 hg2 hB2)
    | ((refine step_append_ints rfl (.tmp 73) (.tmp 76) rfl w.heap.size v2 (([] ++ []) ++ [g, g]) (by as_aux_lemma => kernel_rfl) K2.out.1 ad 0 cap [] (by as_aux_lemma => kernel_rfl) (SL.nil _ _) (by simp) K2.out.2.size ?_); intro v3 w3 hown3 hg3; have hB3 : Below w.heap.size w w3 := K2.out.2.grown hg3 K2.out.2.size (fun k hk => (K2.out.1.lt k hk).1); have K3 := Lib.hid (And.intro hown3 hB3); clear hown3 hg3 hB3)
    | ((refine step_append_ints rfl (.tmp 73) (.tmp 76) rfl w.heap.size v2 (([] ++ []) ++ [g, g]) (by as_aux_lemma => kernel_rfl) K2.out.1 (ad.add 0) 0 cap [] (by as_aux_lemma => kernel_rfl) (SL.nil _ _) (by simp) K2.out.2.size ?_); intro v3 w3 hown3 hg3; have hB3 : Below w.heap.size w w3 := K2.out.2.grown hg3 K2.out.2.size (fun k hk => (K2.out.1.lt k hk).1); have K3 := Lib.hid (And.intro hown3 hB3); clear hown3 hg3 hB3))
    all_goals
      go_wp2_with fail
      go_meet
      case rel => exact ⟨by rw [← HMS.out]; exact K3.out.1, K3.out.2⟩
  case rest =>
    obtain ⟨hownc, hbc⟩ := hcut
    obtain ⟨Am, cm, rfl, _, _⟩ := hownc.form
    have H := Lib.hid (H.out.add hbc hownc.sl)
    clear hownc hbc
    go_wp2_with fail
    refine (lineNormal_ok cap (H.out.get 1 rfl) HN.out HV.out).mono ?_
    rintro e w1 ⟨A1, c1, rfl, s1, _, hb1⟩
    have H := Lib.hid (H.out.add hb1 s1)
    clear s1 hb1
    go_wp2_with fail
    refine (lineNormal_ok cm (H.out.get 1 rfl) (lenV HMV.out) HMV.out).mono ?_
    rintro e w2 ⟨A2, c2, rfl, s2, _, hb2⟩
    have H := Lib.hid (H.out.add hb2 s2)
    clear s2 hb2
    go_wp2_with fail
    refine (lineNormal_ok c1 (H.out.get 1 rfl) (lenV HXV.out) HXV.out).mono ?_
    rintro e w3 ⟨A3, c3, rfl, s3, _, hb3⟩
    have H := Lib.hid (H.out.add hb3 s3)
    clear s3 hb3
    go_wp2_with fail
    refine (same_yes cap cm (H.out.get 4 rfl) (H.out.get 3 rfl) HN.out (lenV HMV.out) HV.out HMV.out HMN.out).mono ?_
    rintro e w4 ⟨rfl, hb4⟩
    have H := Lib.hid (H.out.step hb4)
    clear hb4
    have HRD := Lib.hid (reduced_calls A1 _ c1 _ w4 (H.out.get 2 rfl) (lenV HXV.out))
    go_wp2_with (go_at_call 17; refine HRD.out.mono ?_; rw [HXR.out]; rintro e w' ⟨rfl, rfl⟩)
    refine (eq_ok c1 c2 (H.out.get 2 rfl) (H.out.get 1 rfl) (lenV HXV.out) HMN.out.symm).mono ?_
    rintro e w5 ⟨rfl, hb5⟩
    have H := Lib.hid (H.out.step hb5)
    clear hb5
    go_wp2_with fail
    refine (eq_ok c1 c3 (H.out.get 2 rfl) (H.out.get 0 rfl) (lenV HXV.out) HXN.out.symm).mono ?_
    rintro e w6 ⟨rfl, hb6⟩
    have H := Lib.hid (H.out.step hb6)
    clear hb6
    go_wp2_with fail
    refine (known_after H.out.1).mono ?_
    rintro e wz ⟨rfl, hz⟩
    go_wp2_with fail
    go_ret
    exact ⟨rfl, hz⟩

end Go.Proofs.YtdbipehilfinnaaDoor
