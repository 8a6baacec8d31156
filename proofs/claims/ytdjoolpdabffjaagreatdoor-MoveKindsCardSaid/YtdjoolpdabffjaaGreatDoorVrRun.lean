/- Calls: the virtual run is sound. -/
import Derived.Test.YtdjoolpdabffjaaGreatDoorVrCode
namespace Go.Proofs.YtdjoolpdabffjaaGreatDoor.Vr
open Go Go.Region Go.RowKit

theorem initT_get : ∀ (l : List Value) (k : Nat) (t : Tr Value) (j : Nat), k + l.length ≤ top → (initT l k t).get j = if k ≤ j ∧ j < k + l.length then l[j - k]? else t.get j
  | [], k, t, j, _ => by
    simp only [initT]
    rw [if_neg (fun q => by have := q.2; simp at this; omega)]
  | v :: l, k, t, j, h => by
    simp only [initT, force_eq]
    have hk : k < top := by simp at h; omega
    rw [initT_get l (k + 1) _ j (by simp at h; omega), get_put' _ _ _ _ hk]
    by_cases h1 : k + 1 ≤ j ∧ j < k + 1 + l.length
    · rw [if_pos h1, if_pos (by simp; omega)]
      rw [show j - k = (j - (k + 1)) + 1 by omega, List.getElem?_cons_succ]
    · rw [if_neg h1]
      by_cases h2 : j = k
      · subst h2
        rw [if_pos rfl, if_pos (by simp)]
        simp
      · rw [if_neg h2, if_neg (by simp; omega)]

section
variable {P : Program} {N : Nat} {w0 : World} {G : Nat}

def resV (tmps : Array Value) : ResultVar → Sem Value
  | .tmp t => pure (tmps.getD t undef)
  | .cell a t => do loadVar t (← asAddr (tmps.getD a undef))

theorem results_ok {a : VA} {s : St} : ∀ {l : List ResultVar} {vs : List Value} {es : List Ev}, vresults P a s l = some (vs, es) →
    (s.good → EvsOk s.h.get es s.h.get) ∧ ∀ {γ : Gm} {H H' : Hp} {w : World} {ra : Act}, ARel G γ a.abs ra → Rel P N w0 γ H w → EvsOk H es H' → H' = H ∧ ∃ rs, VRels γ vs rs ∧
      (l.mapM (resV ra.tmps)).run P w = .ok rs w
  | [], vs, es, h => by
    cases h
    exact ⟨fun _ => rfl, fun _ _ hE => ⟨hE, [], .nil, rfl⟩⟩
  | .tmp t :: l, vs, es, h => by
    simp only [vresults] at h
    split at h
    · rename_i vs1 es1 h1
      cases h
      obtain ⟨e1, k1⟩ := results_ok h1
      refine ⟨e1, fun {γ H H' w ra} hA hR hE => ?_⟩
      obtain ⟨hH, rs, hrs, hrun⟩ := k1 hA hR hE
      refine ⟨hH, _, .cons _ _ _ _ (hA.get t) hrs, ?_⟩
      simp only [List.mapM_cons, Sem.run_bind, resV, Sem.run_pure, Result.andThen_ok, hrun]
    · cases h
  | .cell x t :: l, vs, es, h => by
    simp only [vresults] at h
    split at h
    · rename_i v e vs1 es1 h1 h2
      cases h
      obtain ⟨e1, k1⟩ := results_ok h2
      refine ⟨fun hg => ?_, fun {γ H H' w ra} hA hR hE => ?_⟩
      · obtain ⟨s1, hs1⟩ : ∃ s1, s.steps e = some s1 ∧ s1 = s := by
          unfold vload at h1
          split at h1
          · split at h1
            · cases h1
            · split at h1
              · split at h1
                · cases h1; exact ⟨s, rfl, rfl⟩
                · cases h1
              · cases h1
            · split at h1
              · split at h1
                · cases h1; exact ⟨s, rfl, rfl⟩
                · cases h1
              · cases h1
            · split at h1
              · cases h1; exact ⟨s, rfl, rfl⟩
              · cases h1
          · cases h1
        have := (vload_just h1).ok hs1.1 hg
        rw [hs1.2] at this
        exact this.1.append (e1 hg)
      · obtain ⟨K, f1, f2⟩ := hE.split
        obtain ⟨rv, hr, hv, rfl⟩ := load_ok h1 (hA.get x) hR f1
        obtain ⟨hH, rs, hrs, hrun⟩ := k1 hA hR f2
        refine ⟨hH, rv :: rs, .cons _ _ _ _ hv hrs, ?_⟩
        have hld : (do loadVar t (← asAddr (ra.tmps.getD x undef)) : Sem Value).run P w = .ok rv w := by
          have hg := hA.get x
          generalize ra.tmps.getD x undef = r at hg hr
          unfold Instr.loadAt at hr
          cases r with
          | pointer p =>
            cases p with
            | none => simp [Instr.sureAddr] at hr
            | some p => exact hr
          | _ => simp [Instr.sureAddr] at hr
        have hld' : (resV ra.tmps (.cell x t)).run P w = .ok rv w := hld
        simp only [List.mapM_cons, Sem.run_bind, hld', Result.andThen_ok, hrun, Sem.run_pure]
    · cases h

theorem calls_ok {F : Nat} (hm : P.follows .mixedOrders = true) : ∀ n : Nat, CallerOk (calls P G F n) (CallOk P N w0 G)
  | 0 => fun f args s v s' es h _ => by cases h
  | n + 1 => by
    intro f args s v s' es h hg
    simp only [calls] at h
    split at h
    · cases h
    · rename_i fn hfn
      split at h
      · cases h
      · rename_i c hbody
        split at h
        · rename_i hargs
          -- the body's run
          have body : ∀ (x : VX) (a : VA) (s1 : St) (es1 : List Ev), code P (calls P G F n) F c { n := fn.ntmps, g := G, t := initT args 0 .e } s = some (x, a, s1, es1) → (x = .normal ∨ x = .ret) →
              ∀ (vs : List Value) (es2 : List Ev) (u : Value), vresults P a s1 fn.results.toList = some (vs, es2) → (∀ γ rs, VRels γ vs rs → VRel γ u (if h : rs.toArray.size = 1 then rs.toArray[0] else .tuple rs.toArray)) →
              CallOk P N w0 G f args u (es1 ++ es2) ∧ EvsOk s.h.get (es1 ++ es2) s1.h.get ∧ s1.good := by
            intro x a s1 es1 hcode hx vs es2 u hres hu
            obtain ⟨g1, e1, k1⟩ := code_ok (N := N) (w0 := w0) hm (calls_ok hm n) c _ _ _ _ _ _ hcode hg
            obtain ⟨r1, r2⟩ := results_ok (N := N) (w0 := w0) (G := G) hres
            refine ⟨fun γ H H' w rargs hR hnames hv hE => ?_, e1.append (r1 g1), g1⟩
            obtain ⟨K, f1, f2⟩ := hE.split
            refine calls_of_wp hfn hbody (wp_mono (k1 γ H K w _ f1 ?_ hR) ?_)
            · have hlen : rargs.size = args.length := by simpa using hv.length.symm
              refine ⟨?_, fun (t : Nat) => ?_, rfl, rfl, hnames⟩
              · show (rargs ++ Array.replicate (fn.ntmps - rargs.size) undef).size = fn.ntmps
                simp; omega
              · show VRel γ (((initT args 0 .e).get t).getD undef) _
                rw [initT_get args 0 .e t (by omega)]
                simp only [Array.getD_eq_getD_getElem?, Array.getElem?_append]
                by_cases ht : t < args.length
                · rw [if_pos (by omega), if_pos (by omega)]
                  have h1 : args[t]? = some args[t] := List.getElem?_eq_getElem ht
                  obtain ⟨r, hr, hvr⟩ := hv.get h1
                  simp only [Nat.sub_zero, h1, Option.getD_some]
                  rw [show rargs[t]? = some r by simpa using hr]
                  exact hvr
                · rw [if_neg (by omega), if_neg (by omega)]
                  have e2 : (Tr.get (Tr.e : Tr Value) t) = none := rfl
                  rw [e2]
                  simp only [Option.getD_none, Array.getElem?_replicate]
                  split <;> exact VRel.undef
            · rintro e ra' w' ⟨rfl, γ', h3, h4, h5⟩
              obtain ⟨rfl, rs, hrs, hrun⟩ := r2 h4 h5 f2
              have hresults : (results fn ra'.tmps).run P w' = .ok (if h : rs.toArray.size = 1 then rs.toArray[0] else .tuple rs.toArray) w' := by
                have e0 : results fn ra'.tmps = (do let vs ← fn.results.mapM (resV ra'.tmps); pure (if h : vs.size = 1 then vs[0] else .tuple vs)) := rfl
                rw [e0, Sem.run_bind, Array.mapM_eq_mapM_toList, Sem.run_map, hrun]
                rfl
              have post : ra'.defers = [] ∧ ∃ v, (results fn ra'.tmps).run P w' = .ok v w' ∧ (fun e w' => ∃ γ' r, e = Ending.returned r ∧ Ext γ γ' ∧ VRel γ' u r ∧ Rel P N w0 γ' H' w') (.returned v) w' :=
                ⟨h4.defers, _, hresults, γ', _, rfl, h3, hu γ' rs hrs, h5⟩
              rcases hx with rfl | rfl <;> exact post
          have fin : ∀ (x : VX) (a : VA) (s1 : St) (es1 : List Ev), code P (calls P G F n) F c { n := fn.ntmps, g := G, t := initT args 0 .e } s = some (x, a, s1, es1) → (x = .normal ∨ x = .ret) →
              (match vresults P a s1 fn.results.toList with | some ([v], es') => some (v, s1, es1 ++ es') | some (vs, es') => some (Value.tuple vs.toArray, s1, es1 ++ es') | none => none) = some (v, s', es) → CallOk P N w0 G f args v es ∧ EvsOk s.h.get es s'.h.get ∧ s'.good := by
            intro x a s1 es1 hcode hx h
            split at h
            · rename_i u es2 hres
              cases h
              refine body x a s' es1 hcode hx _ _ _ hres fun γ rs hrs => ?_
              cases hrs with
              | cons _ r _ _ h1 h2 => cases h2; exact h1
            · rename_i vs es2 hn hres
              cases h
              refine body x a s' es1 hcode hx _ _ _ hres fun γ rs hrs => ?_
              have hne : ¬ rs.toArray.size = 1 := by
                intro q
                have hl : vs.length = 1 := by rw [hrs.length]; simpa using q
                obtain ⟨u, rfl⟩ := List.length_eq_one_iff.1 hl
                exact hn u rfl
              rw [dif_neg hne]
              exact .tuple _ _ (by simpa using hrs)
            · cases h
          split at h
          · rename_i a s1 es1 hcode
            exact fin _ _ _ _ hcode (.inl rfl) h
          · rename_i a s1 es1 hcode
            exact fin _ _ _ _ hcode (.inr rfl) h
          · cases h
        · cases h

/-- A virtual run of a call says what the call returns, in every world whose memory has what the run's has. -/
theorem calls_sound {F n : Nat} {f : FuncId} {args : List Value} {s s' : St} {v : Value} {es : List Ev} (hm : P.follows .mixedOrders = true) (h : calls P G F n f args s = some (v, s', es)) (hg : s.good)
    {γ : Gm} {w : World} {rargs : Array Value} (hR : Rel P N w0 γ s.h.get w) (hn : ∀ k, k < G → ∃ I, γ k = some I ∧ I.b = k ∧ I.o = 0) (hv : VRels γ args rargs.toList) :
    Calls P f rargs w fun e w' => ∃ γ' r, e = .returned r ∧ Ext γ γ' ∧ VRel γ' v r ∧ Rel P N w0 γ' s'.h.get w' := by
  obtain ⟨h1, h2, _⟩ := calls_ok (N := N) (w0 := w0) (G := G) (F := F) hm n f args s v s' es h hg
  exact h1 γ _ _ w rargs hR hn hv h2
end
end Go.Proofs.YtdjoolpdabffjaaGreatDoor.Vr
