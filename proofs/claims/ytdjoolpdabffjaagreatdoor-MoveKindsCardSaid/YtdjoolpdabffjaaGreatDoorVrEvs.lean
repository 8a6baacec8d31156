/- The events of an operation are those of its own state. -/
import Derived.Test.YtdjoolpdabffjaaGreatDoorVrI
namespace Go.Proofs.YtdjoolpdabffjaaGreatDoor.Vr
open Go Go.Region Go.RowKit

def St.good (s : St) : Prop := ∀ k, s.n ≤ k → s.h.get k = none

def isMod : Ev → Bool
  | .wr _ _ _ | .new _ _ | .kill _ => true
  | _ => false

theorem good_put {s : St} {b : Nat} {x y : Slot} (hg : s.good) (hb : s.h.get b = some x) (ht : b < top) : St.good { s with h := s.h.put bits b y } := by
  intro k hk
  show (Tr.put bits s.h b y).get k = none
  rw [get_put' _ _ _ _ ht]
  have : k ≠ b := by
    intro e
    subst e
    have := hg k hk
    rw [hb] at this
    cases this
  rw [if_neg this]
  exact hg k hk

theorem put_upd {t : Tr Slot} {b : Nat} {y : Slot} (ht : b < top) : (Tr.put bits t b y).get = upd t.get b y := by
  funext k
  rw [get_put' _ _ _ _ ht]
  rfl

theorem mod_ok {s s' : St} {e : Ev} (he : isMod e = true) (h : s.step e = some s') (hg : s.good) : EvOk s.h.get e s'.h.get ∧ s'.good := by
  cases e with
  | wr b off vs =>
    simp only [St.step] at h
    split at h
    · rename_i x hx
      split at h
      · cases h
      · rename_i hro
        split at h
        · rename_i hc
          cases h
          exact ⟨⟨x, hx, by simpa using hro, hc.1, put_upd hc.2⟩, good_put hg hx hc.2⟩
        · cases h
    · cases h
  | new b x =>
    simp only [St.step] at h
    split at h
    · rename_i hc
      rw [force_eq] at h
      cases h
      refine ⟨⟨hg b (by omega), put_upd hc.2⟩, fun k hk => ?_⟩
      show (Tr.put bits s.h b x).get k = none
      have hk' : b + 1 ≤ k := hk
      rw [get_put' _ _ _ _ hc.2, if_neg (by omega)]
      exact hg k (by omega)
    · cases h
  | kill b =>
    simp only [St.step] at h
    split at h
    · rename_i x hx
      split at h
      · rename_i hc
        cases h
        exact ⟨⟨x, hx, hc.1, put_upd hc.2⟩, good_put hg hx hc.2⟩
      · cases h
    · cases h
  | _ => simp [isMod] at he

inductive Just (s : St) : List Ev → Prop where
  | mods (es : List Ev) (h : ∀ e ∈ es, isMod e = true) : Just s es
  | rd (e : Ev) (es : List Ev) (he : EvOk s.h.get e s.h.get) (hs : s.step e = some s) (h : Just s es) : Just s (e :: es)
  | obj (b : Nat) (x y : Slot) (h : s.h.get b = some x) : Just s [.obj b x y]

theorem mods_ok : ∀ {es : List Ev} {s s' : St}, (∀ e ∈ es, isMod e = true) → s.steps es = some s' → s.good → EvsOk s.h.get es s'.h.get ∧ s'.good
  | [], s, s', _, h, hg => by cases h; exact ⟨rfl, hg⟩
  | e :: es, s, s', hm, h, hg => by
    simp only [St.steps] at h
    split at h
    · rename_i s1 h1
      obtain ⟨a, b⟩ := mod_ok (hm e (by simp)) h1 hg
      obtain ⟨c, d⟩ := mods_ok (fun x hx => hm x (by simp [hx])) h b
      exact ⟨⟨_, a, c⟩, d⟩
    · cases h

theorem Just.ok {s s' : St} {es : List Ev} (h : Just s es) (hs : s.steps es = some s') (hg : s.good) : EvsOk s.h.get es s'.h.get ∧ s'.good := by
  induction h with
  | mods es hm => exact mods_ok hm hs hg
  | rd e es he h1 _ ih =>
    simp only [St.steps, h1] at hs
    obtain ⟨a, b⟩ := ih hs
    exact ⟨⟨_, he, a⟩, b⟩
  | obj b x y hb =>
    simp only [St.steps, St.step, hb] at hs
    split at hs
    · rename_i s1 h1
      cases hs
      split at h1
      · split at h1
        · rename_i ht
          cases h1
          exact ⟨⟨_, ⟨hb, put_upd ht⟩, rfl⟩, good_put hg hb ht⟩
        · cases h1
      · split at h1
        · rename_i ht
          cases h1
          exact ⟨⟨_, ⟨hb, put_upd ht⟩, rfl⟩, good_put hg hb ht⟩
        · cases h1
      · cases h1
    · cases hs

theorem Just.nil {s : St} : Just s [] := .mods [] (by simp)
theorem Just.mod1 {s : St} (e : Ev) (h : isMod e = true) : Just s [e] := .mods [e] (by simpa using h)
theorem Just.read {s : St} {b off n : Nat} {vs : List Value} (h : s.read b off n = some vs) {es : List Ev} (he : Just s es) : Just s (.rd b off vs :: es) := .rd _ _ (read_spec h).2 rfl he
theorem Just.info {s : St} {b : Nat} {x : Blk} (h : s.h.get b = some (.live x)) {el : TypeId} {ex : Bool} (h1 : x.elem = el) (h2 : x.exact = ex) {es : List Ev} (he : Just s es) : Just s (.info b el ex :: es) := .rd _ _ ⟨⟨x, h, h1, h2⟩, rfl⟩ rfl he
theorem Just.look {s : St} {b : Nat} {x : Slot} (h : s.h.get b = some x) : Just s [.look b x] := .rd _ _ ⟨h, rfl⟩ rfl .nil

section
variable {P : Program} {s : St} {v : Value} {es : List Ev}

theorem vload_just {t : TypeId} {x : Value} (h : vload P s t x = some (.val v es)) : Just s es := by
  unfold vload at h
  split at h
  · split at h
    · cases h
    · split at h
      · split at h
        · rename_i hv; cases h; exact .read hv .nil
        · cases h
      · cases h
    · split at h
      · split at h
        · rename_i hv; cases h; exact .read hv .nil
        · cases h
      · cases h
    · split at h
      · rename_i hv; cases h; exact .read hv .nil
      · cases h
  · cases h
theorem vstore_just {t : TypeId} {u x : Value} (h : vstore P t u x = some (.val v es)) : Just s es := by
  unfold vstore at h
  split at h
  · split at h
    · split at h
      · cases h
        split
        · exact .nil
        · exact .mod1 _ rfl
      · cases h
    · cases h
  · cases h
theorem vbuildSlice_just {t : TypeId} {n : Nat} {ps : List (Nat × Value)} (h : vbuildSlice P s t n ps = some (.val v es)) : Just s es := by
  unfold vbuildSlice at h
  repeat' split at h
  all_goals first | (cases h; done) | (cases h; exact .mod1 _ rfl)
theorem vmakeSlice_just {t : TypeId} {x y : Value} (h : vmakeSlice P s t x y = some (.val v es)) : Just s es := by
  unfold vmakeSlice at h
  repeat' split at h
  all_goals first | (cases h; done) | (cases h; exact .mod1 _ rfl)
theorem vslice_just {t : TypeId} {x : Value} {l m n : Option Value} (h : vslice P s t x l m n = some (.val v es)) : Just s es := by
  unfold vslice at h
  repeat' split at h
  all_goals first | (cases h; done) | (cases h; exact .nil) | (cases h; exact .info (by assumption) rfl rfl .nil)
theorem vcap_just {t : TypeId} {x : Value} (h : vcap P s t x = some (.val v es)) : Just s es := by
  unfold vcap at h
  dsimp only at h
  split at h
  · cases h; exact .nil
  · split at h
    · rename_i hx; cases h; exact .info hx rfl rfl .nil
    · cases h
  · cases h
theorem vsource_just {size n : Nat} {y : Value} {new : List Value} {es0 : List Ev} (h : vsource s size y = some (n, new, es0)) : ∀ es1, Just s es1 → Just s (es0 ++ es1) := by
  intro es1 h1
  unfold vsource at h
  split at h
  · cases h; exact h1
  · split at h
    · rename_i hv; cases h; exact .read hv h1
    · cases h
  · cases h; exact h1
  · cases h
theorem vgrow_just {el : TypeId} {k n : Nat} {new : List Value} {es0 : List Ev} {x : Value} (h : vgrow s el k n new es0 x = some (.val v es)) (h0 : ∀ es1, Just s es1 → Just s (es0 ++ es1)) : Just s es := by
  unfold vgrow at h
  split at h
  · split at h
    · cases h; simpa using h0 [] .nil
    · cases h; exact h0 _ (.mod1 _ rfl)
  · split at h
    · cases h
      refine h0 _ ?_
      split
      · exact .nil
      · exact .mod1 _ rfl
    · split at h
      · split at h
        · rename_i xb hxb
          split at h
          · rename_i old hold
            split at h
            · rename_i hel
              cases h
              refine h0 _ (.read hold (.info hxb hel rfl (.mods _ ?_)))
              intro e he
              have he' : e ∈ (if xb.exact then [] else [.kill _]) ++ [.new s.n _] := he
              rcases List.mem_append.1 he' with he | he
              · split at he
                · cases he
                · rcases List.mem_singleton.1 he with rfl; rfl
              · rcases List.mem_singleton.1 he with rfl; rfl
            · cases h
          · cases h
        · cases h
      · cases h
  · cases h
theorem vappend_just {tys : Array TypeId} {x y : Value} (h : vappend P s tys x y = some (.val v es)) : Just s es := by
  unfold vappend at h
  split at h
  · split at h
    · split at h
      · split at h
        · rename_i hsrc
          split at h
          · refine vgrow_just h ?_
            split at hsrc
            · unfold vzeros at hsrc
              repeat' split at hsrc
              all_goals first | (cases hsrc; done) | (cases hsrc; exact fun _ h => h)
            · exact vsource_just hsrc
          · cases h
        · cases h
      · cases h
    · cases h
  · cases h
theorem vcopy_just {tys : Array TypeId} {x y : Value} (h : vcopy P s tys x y = some (.val v es)) : Just s es := by
  unfold vcopy at h
  dsimp only at h
  repeat' split at h
  all_goals first
    | (cases h; done)
    | (cases h; exact .nil)
    | (cases h; exact .read (by assumption) .nil)
    | (cases h; exact .read (by assumption) (.mod1 _ rfl))
theorem vclear_just {tys : Array TypeId} {x : Value} (h : vclear P tys x = some (.val v es)) : Just s es := by
  unfold vclear at h
  repeat' split at h
  all_goals first | (cases h; done) | (cases h; exact .nil) | (cases h; exact .mod1 _ rfl)
theorem vconvert_just {t u : TypeId} {x : Value} (h : vconvert P s t u x = some (.val v es)) : Just s es := by
  unfold vconvert at h
  split at h
  · split at h
    · split at h
      · rename_i hv
        split at h
        · cases h; exact .read hv .nil
        · cases h
      · cases h
    · cases h
  · cases h
theorem vnext_just {x : Value} (h : vnext s x = some (.val v es)) : Just s es := by
  unfold vnext at h
  split at h
  · split at h
    · rename_i hx
      split at h
      · cases h; exact .obj _ _ _ hx
      · cases h; exact .look hx
    · cases h
  · cases h
theorem vlookup_just {t : TypeId} {x y : Value} {b : Bool} (h : vlookup P s t x y b = some (.val v es)) : Just s es := by
  unfold vlookup at h
  split at h
  · split at h
    · split at h
      · rename_i hx
        split at h
        · split at h
          · cases h; exact .look hx
          · split at h
            · split at h
              · cases h; exact .look hx
              · cases h
            · cases h
          · cases h
        · cases h
      · cases h
    · cases h
  · cases h
theorem vmapUpdate_just {t : TypeId} {x y z : Value} (h : vmapUpdate P s t x y z = some (.val v es)) : Just s es := by
  unfold vmapUpdate at h
  split at h
  · split at h
    · split at h
      · rename_i hx
        split at h
        · split at h
          · cases h; exact .obj _ _ _ hx
          · split at h
            · cases h; exact .obj _ _ _ hx
            · cases h
          · cases h
        · cases h
      · cases h
    · cases h
  · cases h
theorem pureOp_just {o : Option VR} (h : o = some (.val v es)) (hn : ∀ u fs, o = some (.val u fs) → fs = []) : Just s es := by
  rw [hn _ _ h]; exact .nil

theorem plainOper_nil {E : Sem Next} {xs : List Value} (h : plainOper P E xs = some (.val v es)) : es = [] := by
  unfold plainOper at h
  repeat' split at h
  all_goals first | (cases h; done) | (cases h; rfl)
theorem vbin_nil {E : Sem Next} {op : BinOp} {t : TypeId} {x y : Value} (h : vbin P E op t x y = some (.val v es)) : es = [] := by
  unfold vbin at h
  repeat' split at h
  all_goals first
    | (cases h; done)
    | (cases h; rfl)
    | (simp only [Option.map_eq_some_iff] at h; obtain ⟨_, _, he⟩ := h; cases he; rfl)
theorem vfieldAddr_nil {t : TypeId} {i : Nat} {x : Value} (h : vfieldAddr P t i x = some (.val v es)) : es = [] := by
  unfold vfieldAddr at h
  repeat' split at h
  all_goals first | (cases h; done) | (cases h; rfl)
theorem vindexAddr_nil {t : TypeId} {x y : Value} (h : vindexAddr P t x y = some (.val v es)) : es = [] := by
  unfold vindexAddr at h
  repeat' split at h
  all_goals first | (cases h; done) | (cases h; rfl)
theorem vfield_nil {t : TypeId} {i : Nat} {x : Value} (h : vfield P t i x = some (.val v es)) : es = [] := by
  unfold vfield at h
  repeat' split at h
  all_goals first | (cases h; done) | (simp only [Option.map_eq_some_iff] at h; obtain ⟨_, _, he⟩ := h; cases he; rfl)
theorem vindex_nil {t : TypeId} {x y : Value} (h : vindex P t x y = some (.val v es)) : es = [] := by
  unfold vindex at h
  repeat' split at h
  all_goals first | (cases h; done) | (cases h; rfl) | (simp only [Option.map_eq_some_iff] at h; obtain ⟨_, _, he⟩ := h; cases he; rfl)
theorem vextract_nil {i : Nat} {x : Value} (h : vextract i x = some (.val v es)) : es = [] := by
  unfold vextract at h
  split at h
  · simp only [Option.map_eq_some_iff] at h; obtain ⟨_, _, he⟩ := h; cases he; rfl
  · cases h
theorem vbuild_nil {t : TypeId} {ps : List (Nat × Value)} (h : vbuild P t ps = some (.val v es)) : es = [] := by
  unfold vbuild at h
  repeat' split at h
  all_goals first | (cases h; done) | (cases h; rfl)
theorem vlen_nil {t : TypeId} {x : Value} (h : vlen P t x = some (.val v es)) : es = [] := by
  unfold vlen at h
  dsimp only at h
  repeat' split at h
  all_goals first | (cases h; done) | (cases h; rfl)
theorem callee_nv {x : Value} {xs : List Value} (h : callee P x xs = some (.val v es)) : False := by
  unfold callee at h
  repeat' split at h
  all_goals (cases h; done)

theorem vopB_just {E : Sem Next} {zs : List Value} {o : Oper} (h : vopB P E zs s o = some (.val v es)) : Just s es := by
  unfold vopB at h
  split at h
  all_goals first
    | (cases h; done)
    | (cases h; exact .nil)
    | (cases h; exact .mod1 _ rfl)
    | exact vload_just h | exact vstore_just h | exact vbuildSlice_just h | exact vmakeSlice_just h | exact vslice_just h | exact vnext_just h | exact vlookup_just h | exact vmapUpdate_just h
    | (rw [plainOper_nil h]; exact .nil) | (rw [vbin_nil h]; exact .nil) | (rw [vfieldAddr_nil h]; exact .nil) | (rw [vindexAddr_nil h]; exact .nil) | (rw [vfield_nil h]; exact .nil) | (rw [vindex_nil h]; exact .nil)
    | (rw [vextract_nil h]; exact .nil) | (rw [vbuild_nil h]; exact .nil)
    | (simp only [Option.map_eq_some_iff] at h; obtain ⟨_, _, he⟩ := h; cases he; exact .mod1 _ rfl)
    | (split at h <;> first | (cases h; done) | (cases h; exact .nil) | (cases h; exact .mod1 _ rfl) | (rw [plainOper_nil h]; exact .nil) | exact vconvert_just h | (split at h <;> first | (cases h; done) | (cases h; exact .mod1 _ rfl) | (rw [vlen_nil h]; exact .nil) | exact vcap_just h) | exact (callee_nv h).elim | exact vappend_just h | exact vclear_just h | exact vcopy_just h)
    | (cases h; split <;> first | exact .nil | exact .mod1 _ rfl)
end
end Go.Proofs.YtdjoolpdabffjaaGreatDoor.Vr
