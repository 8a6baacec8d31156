/- Code and calls. -/
import Derived.Test.YtdjoolpdabffjaaGreatDoorVrDrn
import Derived.LoopN
import Derived.Scope
namespace Go.Proofs.YtdjoolpdabffjaaGreatDoor.Vr
open Go Go.Region Go.RowKit

/-- What a caller of the virtual run must keep. -/
def CallerOk (call : Caller) (CO : CallP) : Prop := ∀ f args s v s' es, call f args s = some (v, s', es) → s.good → CO f args v es ∧ EvsOk s.h.get es s'.h.get ∧ s'.good

theorem runOps_script {P : Program} {call : Caller} {CO : CallP} {ops : Array Oper} (hc : CallerOk call CO) : ∀ {l : List Nat} {a a' : VA} {s s' : St} {ev : List (Nat × List Ev)}, runOps P call ops l a s = some (a', s', ev) → s.good →
    Script P CO ops a.abs s.h.get ev a'.abs s'.h.get ∧ s'.good ∧ ev.map (·.1) = l ∧ EvsOk s.h.get (ev.flatMap (·.2)) s'.h.get
  | [], a, a', s, s', ev, h, hg => by cases h; exact ⟨.nil _ _, hg, rfl, rfl⟩
  | i :: l, a, a', s, s', ev, h, hg => by
    simp only [runOps] at h
    split at h
    · cases h
    · rename_i o ho
      have hd : ∀ {b : VA} {v : Value}, a.put o.dst v = some b → a.abs.put (dstOf ops i) v = some b.abs := by
        intro b v hp
        have := abs_put hp
        simpa [dstOf, ho] using this
      split at h
      · rename_i hw
        split at h
        · rename_i v es hv
          split at h
          · rename_i s1 hs1
            split at h
            · rename_i a1 ha1
              split at h
              · rename_i a2 s2 ev2 hr
                cases h
                unfold vop at hv
                split at hv
                · cases hv
                · rename_i xs hxs
                  rw [vopF_eq] at hv
                  obtain ⟨e1, g1⟩ := (vopB_just hv).ok hs1 hg
                  obtain ⟨h1, h2, h3, h4⟩ := runOps_script hc hr g1
                  refine ⟨.cons _ _ _ _ _ _ i v es _ ⟨o, ho, .inr ⟨by rw [abs_wanted]; exact hw, s, xs, ?_, .inl ?_⟩⟩ e1 (hd ha1) h1, h2, by simp [h3], ?_⟩
                  · simpa only [show (a.abs.eval) = a.eval from funext (abs_eval a)] using hxs
                  · simpa only [show (a.abs.eval) = a.eval from funext (abs_eval a)] using hv
                  · simpa using e1.append h4
              · cases h
            · cases h
          · cases h
        · rename_i f args hv
          split at h
          · rename_i v s1 es hcall
            split at h
            · rename_i a1 ha1
              split at h
              · rename_i a2 s2 ev2 hr
                cases h
                unfold vop at hv
                split at hv
                · cases hv
                · rename_i xs hxs
                  rw [vopF_eq] at hv
                  obtain ⟨c1, e1, g1⟩ := hc _ _ _ _ _ _ hcall hg
                  obtain ⟨h1, h2, h3, h4⟩ := runOps_script hc hr g1
                  refine ⟨.cons _ _ _ _ _ _ i v es _ ⟨o, ho, .inr ⟨by rw [abs_wanted]; exact hw, s, xs, ?_, .inr ⟨f, args, ?_, c1⟩⟩⟩ e1 (hd ha1) h1, h2, by simp [h3], ?_⟩
                  · simpa only [show (a.abs.eval) = a.eval from funext (abs_eval a)] using hxs
                  · simpa only [show (a.abs.eval) = a.eval from funext (abs_eval a)] using hv
                  · simpa using e1.append h4
              · cases h
            · cases h
          · cases h
        · cases h
      · rename_i hw
        split at h
        · rename_i a1 ha1
          split at h
          · rename_i a2 s2 ev2 hr
            cases h
            obtain ⟨h1, h2, h3, h4⟩ := runOps_script hc hr hg
            exact ⟨.cons _ _ _ _ _ _ i undef [] _ ⟨o, ho, .inl ⟨by rw [abs_wanted]; simpa using hw, rfl, rfl⟩⟩ rfl (hd ha1) h1, h2, by simp [h3], by simpa using h4⟩
          · cases h
        · cases h

theorem runOpsL_eq {P : Program} {call : Caller} {ops : Array Oper} : ∀ (l : List Oper) (i : Nat) (a : VA) (s : St), (∀ k, k < l.length → ops[i + k]? = l[k]?) → runOpsL P call ops l i a s = runOps P call ops (List.range' i l.length) a s
  | [], i, a, s, _ => rfl
  | o :: rest, i, a, s, h => by
    have h0 : ops[i]? = some o := by simpa using h 0 (by simp)
    have ih := fun a s => runOpsL_eq (P := P) (call := call) rest (i + 1) a s (fun k hk => by
      have := h (k + 1) (by simpa using hk)
      simpa [Nat.add_assoc, Nat.add_comm 1 k] using this)
    simp only [List.length_cons, List.range'_succ, runOpsL_cons, runOps, h0, ih]

theorem Script.rebase {P : Program} {CO : CallP} {ops : Array Oper} {a a2 : AV} {H0 H02 : Hp} {ev : List (Nat × List Ev)} (h : Script P CO ops a H0 ev a2 H02) : ∀ {H H' : Hp}, EvsOk H (ev.flatMap (·.2)) H' → Script P CO ops a H ev a2 H' := by
  induction h with
  | nil a H0 => intro H H' e; have e' : H' = H := e; subst e'; exact .nil _ _
  | cons a a1 a2 H0 H1 H2 i v es rest he hE hp h ih =>
    intro H H' e
    simp only [List.flatMap_cons] at e
    obtain ⟨K, e1, e2⟩ := e.split
    exact .cons _ _ _ _ _ _ i v es rest he e1 hp (ih e2)

def VX.ex : VX → Exit
  | .normal => .normal
  | .exit id => .exit id
  | .ret => .ret

def QC (P : Program) (N : Nat) (w0 : World) (G : Nat) (γ : Gm) (x : VX) (a : AV) (H : Hp) : Exit → Act → World → Prop :=
  fun e ra w => e = x.ex ∧ ∃ γ', Ext γ γ' ∧ ARel G γ' a ra ∧ Rel P N w0 γ' H w

/-- What is shown of a piece of code. -/
def CodeOk (P : Program) (N : Nat) (w0 : World) (G : Nat) (c : Code) (a a' : VA) (s s' : St) (x : VX) (es : List Ev) : Prop :=
  s'.good ∧ EvsOk s.h.get es s'.h.get ∧ ∀ (γ : Gm) (H H' : Hp) (w : World) (ra : Act), EvsOk H es H' → ARel G γ a.abs ra → Rel P N w0 γ H w → c.wp P (QC P N w0 G γ x a'.abs H') ra w

theorem QC.trans {P : Program} {N : Nat} {w0 : World} {G : Nat} {γ γ' : Gm} {x : VX} {a : AV} {H : Hp} (e : Ext γ γ') {ex : Exit} {ra : Act} {w : World} (h : QC P N w0 G γ' x a H ex ra w) : QC P N w0 G γ x a H ex ra w :=
  let ⟨h1, γ'', h2, h3⟩ := h; ⟨h1, γ'', e.trans h2, h3⟩

section
variable {P : Program} {N : Nat} {w0 : World} {G : Nat}

theorem iter_ok {c : Code} {body : VA → St → Out} (hb : ∀ a s x a' s' es, body a s = some (x, a', s', es) → s.good → CodeOk P N w0 G c a a' s s' x es) :
    ∀ (n : Nat) (a : VA) (s : St) (x : VX) (a' : VA) (s' : St) (es : List Ev), iter body n a s = some (x, a', s', es) → s.good →
      s'.good ∧ EvsOk s.h.get es s'.h.get ∧ ∀ (γ : Gm) (H H' : Hp) (w : World) (ra : Act), EvsOk H es H' → ARel G γ a.abs ra → Rel P N w0 γ H w → Code.rounds P c (QC P N w0 G γ x a'.abs H') n ra w
  | 0, a, s, x, a', s', es, h, _ => by cases h
  | n + 1, a, s, x, a', s', es, h, hg => by
    simp only [iter] at h
    split at h
    · rename_i a1 s1 es1 h1
      split at h
      · rename_i x2 a2 s2 es2 h2
        cases h
        obtain ⟨g1, e1, k1⟩ := hb _ _ _ _ _ _ h1 hg
        obtain ⟨g2, e2, k2⟩ := iter_ok hb n _ _ _ _ _ _ h2 g1
        refine ⟨g2, e1.append e2, fun γ H H' w ra hE hA hR => ?_⟩
        obtain ⟨K, f1, f2⟩ := hE.split
        rw [rounds_succ]
        refine wp_mono (k1 γ H K w ra f1 hA hR) ?_
        rintro e ra' w' ⟨rfl, γ', h3, h4, h5⟩
        exact (by
          have := k2 γ' K H' w' ra' f2 h4 h5
          have mono : ∀ m ra w, Code.rounds P c (QC P N w0 G γ' x a'.abs H') m ra w → Code.rounds P c (QC P N w0 G γ x a'.abs H') m ra w := by
            intro m
            induction m with
            | zero => intro ra w h; exact h
            | succ m ihm =>
              intro ra w h
              rw [rounds_succ] at h ⊢
              refine wp_mono h fun e ra w h => ?_
              cases e <;> first | exact ihm _ _ h | exact QC.trans h3 h
          exact mono _ _ _ this)
      · cases h
    · rename_i hn
      obtain ⟨g1, e1, k1⟩ := hb _ _ _ _ _ _ h hg
      refine ⟨g1, e1, fun γ H H' w ra hE hA hR => ?_⟩
      rw [rounds_succ]
      refine wp_mono (k1 γ H H' w ra hE hA hR) ?_
      rintro e ra' w' ⟨rfl, h3⟩
      cases x with
      | normal => exact absurd h (hn _ _ _)
      | exit id => exact ⟨rfl, h3⟩
      | ret => exact ⟨rfl, h3⟩

theorem code_ok {call : Caller} {F : Nat} (hm : P.follows .mixedOrders = true) (hc : CallerOk call (CallOk P N w0 G)) : ∀ (c : Code) (a : VA) (s : St) (x : VX) (a' : VA) (s' : St) (es : List Ev), code P call F c a s = some (x, a', s', es) → s.good →
    CodeOk P N w0 G c a a' s s' x es
  | .skip, a, s, x, a', s', es, h, hg => by
    cases h
    refine ⟨hg, rfl, fun γ H H' w ra hE hA hR => wp_skip ⟨rfl, γ, Ext.refl γ, hA, ?_⟩⟩
    cases hE; exact hR
  | .label _, a, s, x, a', s', es, h, hg => by
    cases h
    refine ⟨hg, rfl, fun γ H H' w ra hE hA hR => wp_label ⟨rfl, γ, Ext.refl γ, hA, ?_⟩⟩
    cases hE; exact hR
  | .exit id, a, s, x, a', s', es, h, hg => by
    cases h
    refine ⟨hg, rfl, fun γ H H' w ra hE hA hR => wp_exit ⟨rfl, γ, Ext.refl γ, hA, ?_⟩⟩
    cases hE; exact hR
  | .ret, a, s, x, a', s', es, h, hg => by
    cases h
    refine ⟨hg, rfl, fun γ H H' w ra hE hA hR => wp_ret ⟨rfl, γ, Ext.refl γ, hA, ?_⟩⟩
    cases hE; exact hR
  | .seq c d, a, s, x, a', s', es, h, hg => by
    have h : codeSeq (code P call F c) (code P call F d) a s = some (x, a', s', es) := h
    unfold codeSeq at h
    split at h
    · rename_i a1 s1 es1 h1
      split at h
      · rename_i x2 a2 s2 es2 h2
        cases h
        obtain ⟨g1, e1, k1⟩ := code_ok hm hc c _ _ _ _ _ _ h1 hg
        obtain ⟨g2, e2, k2⟩ := code_ok hm hc d _ _ _ _ _ _ h2 g1
        refine ⟨g2, e1.append e2, fun γ H H' w ra hE hA hR => wp_seq ?_⟩
        obtain ⟨K, f1, f2⟩ := hE.split
        refine wp_mono (k1 γ H K w ra f1 hA hR) ?_
        rintro e ra' w' ⟨rfl, γ', h3, h4, h5⟩
        exact wp_mono (k2 γ' K H' w' ra' f2 h4 h5) fun e ra w h => QC.trans h3 h
      · cases h
    · rename_i hn
      obtain ⟨g1, e1, k1⟩ := code_ok hm hc c _ _ _ _ _ _ h hg
      refine ⟨g1, e1, fun γ H H' w ra hE hA hR => wp_seq (wp_mono (k1 γ H H' w ra hE hA hR) ?_)⟩
      rintro e ra' w' ⟨rfl, h3⟩
      cases x with
      | normal => exact absurd h (hn _ _ _)
      | exit id => exact ⟨rfl, h3⟩
      | ret => exact ⟨rfl, h3⟩
  | .cond o c d, a, s, x, a', s', es, h, hg => by
    have h : codeCond o (code P call F c) (code P call F d) a s = some (x, a', s', es) := h
    unfold codeCond at h
    split at h
    · rename_i ho
      obtain ⟨g1, e1, k1⟩ := code_ok hm hc c _ _ _ _ _ _ h hg
      refine ⟨g1, e1, fun γ H H' w ra hE hA hR => wp_cond_true ?_ (k1 γ H H' w ra hE hA hR)⟩
      exact (hA.eval (by rw [abs_eval]; exact ho)).of_plainV rfl
    · rename_i ho
      obtain ⟨g1, e1, k1⟩ := code_ok hm hc d _ _ _ _ _ _ h hg
      refine ⟨g1, e1, fun γ H H' w ra hE hA hR => wp_cond_false ?_ (k1 γ H H' w ra hE hA hR)⟩
      exact (hA.eval (by rw [abs_eval]; exact ho)).of_plainV rfl
    · cases h
  | .block id c, a, s, x, a', s', es, h, hg => by
    have h : codeBlock id (code P call F c) a s = some (x, a', s', es) := h
    unfold codeBlock at h
    split at h
    · rename_i i a1 s1 es1 h1
      obtain ⟨g1, e1, k1⟩ := code_ok hm hc c _ _ _ _ _ _ h1 hg
      split at h
      · rename_i hid
        cases h
        refine ⟨g1, e1, fun γ H H' w ra hE hA hR => wp_block (wp_mono (k1 γ H H' w ra hE hA hR) ?_)⟩
        rintro e ra' w' ⟨rfl, h3⟩
        simp only [VX.ex, Exit.inBlock, hid, if_true]
        exact ⟨rfl, h3⟩
      · rename_i hid
        cases h
        refine ⟨g1, e1, fun γ H H' w ra hE hA hR => wp_block (wp_mono (k1 γ H H' w ra hE hA hR) ?_)⟩
        rintro e ra' w' ⟨rfl, h3⟩
        simp only [VX.ex, Exit.inBlock, hid, if_false]
        exact ⟨rfl, h3⟩
    · rename_i hn
      obtain ⟨g1, e1, k1⟩ := code_ok hm hc c _ _ _ _ _ _ h hg
      refine ⟨g1, e1, fun γ H H' w ra hE hA hR => wp_block (wp_mono (k1 γ H H' w ra hE hA hR) ?_)⟩
      rintro e ra' w' ⟨rfl, h3⟩
      cases x with
      | normal => exact ⟨rfl, h3⟩
      | exit id => exact absurd h (hn _ _ _ _)
      | ret => exact ⟨rfl, h3⟩
  | .loop c, a, s, x, a', s', es, h, hg => by
    have h : iter (code P call F c) F a s = some (x, a', s', es) := h
    obtain ⟨g1, e1, k1⟩ := iter_ok (P := P) (N := N) (w0 := w0) (G := G) (c := c) (fun a s x a' s' es h hg => code_ok hm hc c a s x a' s' es h hg) F _ _ _ _ _ _ h hg
    exact ⟨g1, e1, fun γ H H' w ra hE hA hR => wp_loop_rounds F (k1 γ H H' w ra hE hA hR)⟩
  | .scope c, a, s, x, a', s', es, h, hg => by
    have h : code P call F c a s = some (x, a', s', es) := h
    obtain ⟨g1, e1, k1⟩ := code_ok hm hc c _ _ _ _ _ _ h hg
    refine ⟨g1, e1, fun γ H H' w ra hE hA hR => wp_scope_straight (wp_mono (k1 γ H H' w ra hE hA hR) ?_)⟩
    rintro e ra' w' ⟨rfl, h3⟩
    cases x <;> exact ⟨rfl, h3⟩
  | .region id ops draw, a, s, x, a', s', es, h, hg => by
    have h : codeRegion P call ops draw a s = some (x, a', s', es) := h
    unfold codeRegion at h
    rw [runOpsL_eq ops.toList 0 a s (fun k _ => by simp), ← List.range_eq_range', Array.length_toList] at h
    split at h
    · rename_i a1 s1 ev hr
      obtain ⟨h1, h2, h3, h4⟩ := runOps_script hc hr hg
      split at h
      · cases h
      · rename_i hsel
        have hsel : noSel ops = true := by simpa using hsel
        split at h
        · rename_i hd
          split at h
          · rename_i hst
            cases h
            simp only [Bool.and_eq_true] at hst
            refine ⟨h2, h4, fun γ H H' w ra hE hA hR => ?_⟩
            subst hd
            have hed : edgesL ops.toList 0 = true := by
              have := hst.1
              simp only [staticOk, Bool.and_eq_true] at this
              exact this.1
            have hlen : ev.length = ops.size := by
              have := congrArg List.length h3
              simpa using this
            refine wp_region_any hm (drawn_any hsel hed ops.size _ ev _ H γ ra _ hlen (h1.rebase hE) (stand_of hst.1 hst.2 h3) (by simp) ?_ ?_ ?_ hA hR.drew ?_)
            · intro i hi
              rw [h3]
              simp [Array.getD, hi]
            · intro i hi hl
              simp [Array.getD, hi] at hl
            · intro i hi
              rw [h3] at hi
              simpa using hi
            · exact fun γ' ra' w' e hA' hR' => ⟨rfl, γ', e, hA', hR'⟩
          · cases h
        · rename_i hd
          cases h
          refine ⟨h2, h4, fun γ H H' w ra hE hA hR => ?_⟩
          have hd : draw = false := by simpa using hd
          subst hd
          refine wp_region ?_
          rw [← h3]
          exact script_ops hsel (h1.rebase hE) hA hR fun γ' ra' w' e hA' hR' => ⟨rfl, γ', e, hA', hR'⟩
    · cases h
  | .rangeFunc _ _ _ _, a, s, x, a', s', es, h, hg => by cases h
  | .goto _, a, s, x, a', s', es, h, hg => by cases h
  | .refuse _, a, s, x, a', s', es, h, hg => by cases h

end
end Go.Proofs.YtdjoolpdabffjaaGreatDoor.Vr
