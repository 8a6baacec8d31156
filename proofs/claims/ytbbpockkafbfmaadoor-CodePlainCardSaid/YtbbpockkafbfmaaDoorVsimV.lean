/-
  When another list of letters is valid because a code is: a bijection of darts (pure; out of VnormV).
-/
import Derived.Test.YtbbpockkafbfmaaDoorPureC
namespace Go.Proofs.YtbbpockkafbfmaaDoor
open Go.RowKit

/-- Darts of one face. -/
inductive Orb (T : Nat → Nat) (N : Nat) : Nat → Nat → Prop
  | refl (x : Nat) : Orb T N x x
  | fwd {x y : Nat} : Orb T N x y → y < N → Orb T N x (T y)
  | bwd {x y : Nat} : Orb T N x (T y) → y < N → Orb T N x y
section
variable {T : Nat → Nat} {N : Nat}
theorem Orb.trans {x y z : Nat} (h : Orb T N x y) (k : Orb T N y z) : Orb T N x z := by
  induction k with
  | refl => exact h
  | fwd _ hy ih => exact .fwd ih hy
  | bwd _ hy ih => exact .bwd ih hy
theorem Orb.symm {x y : Nat} (h : Orb T N x y) : Orb T N y x := by
  induction h with
  | refl => exact .refl _
  | fwd _ hy ih => exact Orb.trans (.bwd (.refl _) hy) ih
  | bwd _ hy ih => exact Orb.trans (.fwd (.refl _) hy) ih
theorem Orb.stays {P : Nat → Prop} (h1 : ∀ y, y < N → (P y ↔ P (T y))) {x y : Nat} (h : Orb T N x y) (hx : P x) : P y := by
  induction h with
  | refl => exact hx
  | fwd _ hy ih => exact (h1 _ hy).1 ih
  | bwd _ hy ih => exact (h1 _ hy).2 ih
theorem Run.orb {d : Nat} {l : List Nat} (h : Run T d l) (hb : ∀ x, x ∈ l → x < N) : ∀ x, x ∈ l → Orb T N d x := by
  induction h with
  | one => intro x hx; rw [List.mem_singleton] at hx; subst hx; exact .refl _
  | @more y r _ ih =>
    have h1 := ih (fun x hx => hb x (List.mem_cons_of_mem _ hx))
    intro x hx
    rcases List.mem_cons.1 hx with rfl | hx
    · exact .fwd (h1 y List.mem_cons_self) (hb y (List.mem_cons_of_mem _ List.mem_cons_self))
    · exact h1 x hx
theorem Run.next {d y : Nat} {q : List Nat} (h : Run T d (y :: q)) : ∀ x, x ∈ q → T x ∈ y :: q := by
  generalize hl : y :: q = l at h
  induction h generalizing y q with
  | one => injection hl with _ e; subst e; intro x hx; cases hx
  | @more z r _ ih =>
    injection hl with e1 e2
    subst e1; subst e2
    intro x hx
    rcases List.mem_cons.1 hx with rfl | hx
    · exact List.mem_cons_self
    · exact List.mem_cons_of_mem _ (ih rfl x hx)
end
/-- One dart of each face. -/
structure Reps (E : Nat → Nat → Prop) (N : Nat) (R : List Nat) : Prop where
  nodup : R.Nodup
  lt : ∀ x, x ∈ R → x < N
  all : ∀ x, x < N → ∃ r, r ∈ R ∧ E r x
  one : ∀ a b, a ∈ R → b ∈ R → E a b → a = b
theorem nodup_sub {l : List Nat} : ∀ {k : List Nat}, l.Nodup → (∀ x, x ∈ l → x ∈ k) → l.length ≤ k.length := by
  induction l with
  | nil => intro k _ _; simp
  | cons a r ih =>
    intro k hn hs
    obtain ⟨h1, h2⟩ := List.nodup_cons.1 hn
    have h3 := ih (k := k.erase a) h2 (fun x hx => (List.mem_erase_of_ne (fun e => h1 (by rw [← e]; exact hx))).2 (hs x (List.mem_cons_of_mem _ hx)))
    have h4 := List.length_erase_of_mem (hs a List.mem_cons_self)
    have h5 : 0 < k.length := List.length_pos_of_mem (hs a List.mem_cons_self)
    simp only [List.length_cons]
    omega
theorem map_nodup {f : Nat → Nat} {l : List Nat} (hn : l.Nodup) (hi : ∀ a b, a ∈ l → b ∈ l → f a = f b → a = b) : (l.map f).Nodup := by
  induction l with
  | nil => exact List.nodup_nil
  | cons a r ih =>
    obtain ⟨h1, h2⟩ := List.nodup_cons.1 hn
    rw [List.map_cons, List.nodup_cons]
    refine ⟨fun hm => ?_, ih h2 (fun x y hx hy => hi x y (List.mem_cons_of_mem _ hx) (List.mem_cons_of_mem _ hy))⟩
    obtain ⟨b, hb, e⟩ := List.mem_map.1 hm
    have := hi b a (List.mem_cons_of_mem _ hb) List.mem_cons_self e
    subst this
    exact h1 hb
theorem Reps.le {E : Nat → Nat → Prop} {N : Nat} {R R' : List Nat} (hs : ∀ x y, E x y → E y x) (ht : ∀ x y z, E x y → E y z → E x z) (h : Reps E N R) (h' : Reps E N R') : R.length ≤ R'.length := by
  have hc : ∀ r : Nat, ∃ s : Nat, r ∈ R → s ∈ R' ∧ E s r := fun r => by
    by_cases hr : r ∈ R
    · obtain ⟨s, h1, h2⟩ := h'.all r (h.lt r hr)
      exact ⟨s, fun _ => ⟨h1, h2⟩⟩
    · exact ⟨0, fun c => absurd c hr⟩
  have hf := Classical.axiomOfChoice hc
  obtain ⟨g, hg⟩ := hf
  have h1 : (R.map g).Nodup := map_nodup h.nodup (fun a b ha hb e => h.one a b ha hb (by
    have q := hs _ _ (hg b hb).2
    rw [← e] at q
    exact hs _ _ (ht _ _ _ q (hg a ha).2)))
  have h2 := nodup_sub h1 (k := R') (fun x hx => by
    obtain ⟨a, ha, rfl⟩ := List.mem_map.1 hx
    exact (hg a ha).1)
  rw [List.length_map] at h2
  exact h2
theorem Reps.len {E : Nat → Nat → Prop} {N : Nat} {R R' : List Nat} (hs : ∀ x y, E x y → E y x) (ht : ∀ x y z, E x y → E y z → E x z) (h : Reps E N R) (h' : Reps E N R') : R.length = R'.length :=
  Nat.le_antisymm (h.le hs ht h') (h'.le hs ht h)
/-- The faces' first darts, behind the first d darts. -/
structure FirstD (D : DM) (d : Nat) (R : List Nat) : Prop where
  len : R.length = (D.outer d).all.length
  nodup : R.Nodup
  lt : ∀ x, x ∈ R → x < 2 * D.n ∧ (D.outer d).met.getD x false = true
  all : ∀ x, x < 2 * D.n → (D.outer d).met.getD x false = true → ∃ r, r ∈ R ∧ Orb D.left (2 * D.n) r x
  one : ∀ a b, a ∈ R → b ∈ R → Orb D.left (2 * D.n) a b → a = b
  mlen : (D.outer d).met.length = 2 * D.n
  met : ∀ x, x < d → (D.outer d).met.getD x false = true
  closed : ∀ y, y < 2 * D.n → ((D.outer d).met.getD y false = true ↔ (D.outer d).met.getD (D.left y) false = true)
theorem first_darts {D : DM} (hlt : ∀ x, x < 2 * D.n → D.left x < 2 * D.n) (hinj : ∀ x y, x < 2 * D.n → y < 2 * D.n → D.left x = D.left y → x = y) : ∀ d, d ≤ 2 * D.n → ∃ R, FirstD D d R
  | 0, _ => by
    have e : ∀ y, (D.outer 0).met.getD y false = false := fun y => by
      simp only [DM.outer, List.getD_eq_getElem?_getD, List.getElem?_replicate]; split <;> rfl
    refine ⟨[], by simp [DM.outer], List.nodup_nil, fun x h => (by cases h), fun x _ h => ?_, fun a b h => (by cases h), by simp [DM.outer], fun x h => by omega, fun y _ => ?_⟩
    · rw [e] at h; cases h
    · rw [e, e]
  | d + 1, hd => by
    obtain ⟨R, I⟩ := first_darts hlt hinj d (by omega)
    cases hb : (D.outer d).met.getD d false with
    | true =>
      have h2 : D.inner d (D.outer d).ds.length (2 * D.n + 1) d (D.outer d).met (D.outer d).ds = (false, (D.outer d).met, (D.outer d).ds) := by
        rw [DM.inner, if_pos (.inl rfl), if_pos hb]
      have h3 : D.outer (d + 1) = D.outer d := by
        rw [DM.outer]
        rw [h2]
        simp
      refine ⟨R, by rw [h3]; exact I.len, I.nodup, by rw [h3]; exact I.lt, by rw [h3]; exact I.all, I.one, by rw [h3]; exact I.mlen, fun x hx => ?_, by rw [h3]; exact I.closed⟩
      rw [h3]
      by_cases e : x = d
      · rw [e]; exact hb
      · exact I.met x (by omega)
    | false =>
      have hcyc : Cyc D.left (2 * D.n) (D.outer d).met d [d] := ⟨.one, by simp, fun x hxm => by
        obtain rfl : x = d := by simpa using hxm
        exact ⟨by omega, hb⟩⟩
      obtain ⟨y, q, met', c1, c2, c3, c4⟩ := inner_closed (ds0 := (D.outer d).ds) hlt hinj I.mlen (fun y hy h => (I.closed y hy).2 h) (2 * D.n) d [] ((D.outer d).met.set d true) hcyc ((Marks.nil _).set (by rw [I.mlen]; omega)) (by simp)
      have h2 : D.inner d (D.outer d).ds.length (2 * D.n + 1) d (D.outer d).met (D.outer d).ds = (true, met', (D.outer d).ds ++ (y :: q).reverse) := by
        rw [DM.inner, if_pos (.inl rfl), if_neg (by rw [hb]; simp)]
        exact c4
      have h3 : D.outer (d + 1) = ⟨met', (D.outer d).ds ++ (y :: q).reverse, (D.outer d).all ++ [((D.outer d).ds.length, ((D.outer d).ds ++ (y :: q).reverse).length)]⟩ := by
        rw [DM.outer]
        rw [h2]
        simp
      have hcl : ∀ y, y < 2 * D.n → ((D.outer d).met.getD y false = true ↔ (D.outer d).met.getD (D.left y) false = true) := I.closed
      have hin : ∀ x, x < 2 * D.n → (x ∈ y :: q ↔ D.left x ∈ y :: q) := fun x hx => ⟨fun h => by
        rcases List.mem_cons.1 h with rfl | h
        · rw [c2]; exact c1.run.first
        · exact c1.run.next x h, fun h => by
        rcases c1.run.mem h with e | ⟨z, hz, e⟩
        · have := hinj x y hx (c1.new y List.mem_cons_self).1 (e.trans c2.symm)
          rw [this]; exact List.mem_cons_self
        · have := hinj x z hx (c1.new z (List.mem_cons_of_mem _ hz)).1 e
          rw [this]; exact List.mem_cons_of_mem _ hz⟩
      have hor := c1.run.orb (fun x hx => (c1.new x hx).1)
      have hnr : ∀ r, r ∈ R → ¬ Orb D.left (2 * D.n) r d := fun r hr ho => by
        have := ho.stays (P := fun x => (D.outer d).met.getD x false = true) hcl (I.lt r hr).2
        rw [hb] at this
        cases this
      refine ⟨R ++ [d], ?_, ?_, fun x hx => ?_, fun x hx hm => ?_, fun a b ha hb' ho => ?_, ?_, fun x hx => ?_, fun x hx => ?_⟩
      · rw [h3]; simp only [List.length_append, I.len]; rfl
      · rw [List.nodup_append]
        refine ⟨I.nodup, by simp, fun a ha b hb' e => ?_⟩
        rw [List.mem_singleton] at hb'
        subst hb'; subst e
        exact hnr _ ha (.refl _)
      · rw [h3]
        show x < 2 * D.n ∧ met'.getD x false = true
        rw [c3.2]
        rcases List.mem_append.1 hx with h | h
        · rw [(I.lt x h).2]; exact ⟨(I.lt x h).1, rfl⟩
        · rw [List.mem_singleton] at h; subst h
          rw [decide_eq_true c1.run.first]
          exact ⟨by omega, by simp⟩
      · rw [h3] at hm
        change met'.getD x false = true at hm
        rw [c3.2, Bool.or_eq_true] at hm
        rcases hm with hm | hm
        · obtain ⟨r, h1, h2⟩ := I.all x hx hm
          exact ⟨r, List.mem_append_left _ h1, h2⟩
        · exact ⟨d, by simp, hor x (of_decide_eq_true hm)⟩
      · rcases List.mem_append.1 ha with ha1 | ha1 <;> rcases List.mem_append.1 hb' with hb1 | hb1
        · exact I.one a b ha1 hb1 ho
        · rw [List.mem_singleton] at hb1; rw [hb1] at ho
          exact absurd ho (hnr a ha1)
        · rw [List.mem_singleton] at ha1; rw [ha1] at ho
          exact absurd ho.symm (hnr b hb1)
        · rw [List.mem_singleton] at ha1 hb1; rw [ha1, hb1]
      · rw [h3]; exact c3.1.trans I.mlen
      · rw [h3]
        show met'.getD x false = true
        rw [c3.2]
        by_cases e : x = d
        · rw [e, decide_eq_true c1.run.first]; simp
        · rw [I.met x (by omega)]; rfl
      · rw [h3]
        show met'.getD x false = true ↔ met'.getD (D.left x) false = true
        rw [c3.2, c3.2, Bool.or_eq_true, Bool.or_eq_true, hcl x hx, decide_eq_true_iff, decide_eq_true_iff, hin x hx]
theorem outer_reps {D : DM} (hlt : ∀ x, x < 2 * D.n → D.left x < 2 * D.n) (hinj : ∀ x y, x < 2 * D.n → y < 2 * D.n → D.left x = D.left y → x = y) : ∃ R, Reps (Orb D.left (2 * D.n)) (2 * D.n) R ∧ R.length = (D.outer (2 * D.n)).all.length := by
  obtain ⟨R, I⟩ := first_darts hlt hinj (2 * D.n) (Nat.le_refl _)
  exact ⟨R, ⟨I.nodup, fun x hx => (I.lt x hx).1, fun x hx => I.all x hx (I.met x hx), I.one⟩, I.len⟩
/-- Two maps of as many darts have as many faces, if the faces of one go over into those of the other. -/
theorem outer_count {D D' : DM} (hlt : ∀ x, x < 2 * D.n → D.left x < 2 * D.n) (hinj : ∀ x y, x < 2 * D.n → y < 2 * D.n → D.left x = D.left y → x = y)
    (hlt' : ∀ x, x < 2 * D'.n → D'.left x < 2 * D'.n) (hinj' : ∀ x y, x < 2 * D'.n → y < 2 * D'.n → D'.left x = D'.left y → x = y) (f g : Nat → Nat) (hn : D'.n = D.n)
    (hf : ∀ x, x < 2 * D.n → f x < 2 * D.n ∧ g (f x) = x) (hg : ∀ x, x < 2 * D.n → g x < 2 * D.n ∧ f (g x) = x)
    (h1 : ∀ x, x < 2 * D.n → Orb D'.left (2 * D.n) (f x) (f (D.left x))) (h2 : ∀ x, x < 2 * D.n → Orb D.left (2 * D.n) (g x) (g (D'.left x))) : (D'.outer (2 * D'.n)).all.length = (D.outer (2 * D.n)).all.length := by
  obtain ⟨R, r1, r2⟩ := outer_reps hlt hinj
  obtain ⟨R', r1', r2'⟩ := outer_reps hlt' hinj'
  rw [← r2, ← r2']
  rw [hn] at r1' hlt'
  have e1 : ∀ x y, Orb D.left (2 * D.n) x y → Orb D'.left (2 * D.n) (f x) (f y) := by
    intro x y h
    induction h with
    | refl => exact .refl _
    | fwd _ hy ih => exact ih.trans (h1 _ hy)
    | bwd _ hy ih => exact ih.trans (h1 _ hy).symm
  have e2 : ∀ x y, Orb D'.left (2 * D.n) x y → Orb D.left (2 * D.n) (g x) (g y) := by
    intro x y h
    induction h with
    | refl => exact .refl _
    | fwd _ hy ih => exact ih.trans (h2 _ hy)
    | bwd _ hy ih => exact ih.trans (h2 _ hy).symm
  have hm : Reps (Orb D'.left (2 * D.n)) (2 * D.n) (R.map f) := by
    refine ⟨map_nodup r1.nodup (fun a b ha hb e => ?_), fun x hx => ?_, fun x hx => ?_, fun a b ha hb ho => ?_⟩
    · have := (hf a (r1.lt a ha)).2
      rw [e, (hf b (r1.lt b hb)).2] at this
      exact this.symm
    · obtain ⟨a, ha, rfl⟩ := List.mem_map.1 hx
      exact (hf a (r1.lt a ha)).1
    · obtain ⟨r, hr, ho⟩ := r1.all (g x) (hg x hx).1
      refine ⟨f r, List.mem_map_of_mem hr, ?_⟩
      have := e1 _ _ ho
      rw [(hg x hx).2] at this
      exact this
    · obtain ⟨c, hc, rfl⟩ := List.mem_map.1 ha
      obtain ⟨d, hd, rfl⟩ := List.mem_map.1 hb
      have := e2 _ _ ho
      rw [(hf c (r1.lt c hc)).2, (hf d (r1.lt d hd)).2] at this
      rw [r1.one c d hc hd this]
  have := Reps.len (fun _ _ h => h.symm) (fun _ _ _ h k => h.trans k) r1' hm
  rw [List.length_map] at this
  exact this
/-- A dart by the letter to which it leads, and its direction. -/
def nxtM (n v : Nat) : Nat := if v + 1 = n then 0 else v + 1
def prvM (n v : Nat) : Nat := if v = 0 then n - 1 else v - 1
theorem nxt_mod {n v : Nat} (h : v < n) : (v + 1) % n = nxtM n v := by
  unfold nxtM
  split
  · rename_i e; rw [e, Nat.mod_self]
  · rw [Nat.mod_eq_of_lt (by omega)]
theorem prv_mod {n v : Nat} (h : v < n) : (v + n - 1) % n = prvM n v := by
  unfold prvM
  split
  · rename_i e; subst e; rw [Nat.zero_add, Nat.mod_eq_of_lt (by omega)]
  · rw [show v + n - 1 = v - 1 + n by omega, Nat.add_mod_right, Nat.mod_eq_of_lt (by omega)]
theorem nxt_lt {n v : Nat} (h : v < n) : nxtM n v < n := by unfold nxtM; split <;> omega
theorem prv_lt {n v : Nat} (h : v < n) : prvM n v < n := by unfold prvM; split <;> omega
theorem nxt_prv {n v : Nat} (h : v < n) : nxtM n (prvM n v) = v := by unfold nxtM prvM; split <;> split <;> omega
theorem prv_nxt {n v : Nat} (_ : v < n) : prvM n (nxtM n v) = v := by unfold nxtM prvM; split <;> split <;> omega
def arrM (n v : Nat) (b : Bool) : Nat := if b then 2 * v + 1 else 2 * prvM n v
theorem arr_lt {n v : Nat} (h : v < n) (b : Bool) : arrM n v b < 2 * n := by have := prv_lt h; unfold arrM; split <;> omega
theorem end_arr {n v : Nat} (h : v < n) (b : Bool) : endM n (arrM n v b) = v ∧ decide (arrM n v b % 2 = 1) = b := by
  cases b
  · have e : (2 * prvM n v) % 2 = 0 := by omega
    refine ⟨?_, by simp [arrM]⟩
    show endM n (2 * prvM n v) = v
    unfold endM
    rw [if_neg (by omega), show 2 * prvM n v / 2 = prvM n v by omega, nxt_mod (prv_lt h), nxt_prv h]
  · refine ⟨?_, by simp [arrM]⟩
    show endM n (2 * v + 1) = v
    unfold endM
    rw [if_pos (by omega)]; omega
theorem end_lt {n d : Nat} (h : d < 2 * n) : endM n d < n := by
  unfold endM
  split
  · omega
  · exact Nat.mod_lt _ (by omega)
theorem arr_end {n d : Nat} (h : d < 2 * n) : arrM n (endM n d) (decide (d % 2 = 1)) = d := by
  unfold endM arrM
  by_cases e : d % 2 = 1
  · rw [if_pos e, decide_eq_true e, if_pos rfl]; omega
  · rw [if_neg e, decide_eq_false e, if_neg (by simp), nxt_mod (by omega), prv_nxt (by omega)]; omega
theorem leave_arr {n u : Nat} (h : u < n) (b : Bool) : leaveM n u b = arrM n (if b then prvM n u else nxtM n u) b := by
  cases b
  · show 2 * u = 2 * prvM n (nxtM n u)
    rw [prv_nxt h]
  · show 2 * ((u + n - 1) % n) + 1 = 2 * prvM n u + 1
    rw [prv_mod h]
theorem leave_lt {n u : Nat} (h : u < n) (b : Bool) : leaveM n u b < 2 * n := by
  rw [leave_arr h]
  exact arr_lt (by split; exact prv_lt h; exact nxt_lt h) b
/-- Two maps of which the one is an image of the other: the string may be traveled backwards (rv), the sides of the axis exchanged (fl), left and right too (mir); then left turns become right ones (sm). -/
structure Sim (D D' : DM) (s t : Nat → Nat) (rv fl mir sm : Bool) : Prop where
  n : D'.n = D.n
  m : D'.m = D.m
  flag : sm = ((fl != rv) != mir)
  lt : ∀ v, v < D.n → s v < D.n
  inv : ∀ v, v < D.n → t (s v) = v
  nxt : ∀ v, v < D.n → s (nxtM D.n v) = if rv then prvM D.n (s v) else nxtM D.n (s v)
  prv : ∀ v, v < D.n → s (prvM D.n v) = if rv then nxtM D.n (s v) else prvM D.n (s v)
  kind : ∀ v l, D.ls[v]? = some l → ∃ l', D'.ls[s v]? = some l' ∧ l'.kind = l.kind ∧ (l.kind = 2 → (l'.over == decide (l'.sign = 1)) = ((l.over == decide (l.sign = 1)) != sm))
  ot : ∀ v l, D.ls[v]? = some l → l.kind = 2 → D'.ot.getD (s v) 0 = s (D.ot.getD v 0)
  sp : ∀ v l, D.ls[v]? = some l → l.kind = 1 → D'.sp.getD (s v) 0 = if mir then D.m - 1 - D.sp.getD v 0 else D.sp.getD v 0
  dn : ∀ v l, D.ls[v]? = some l → l.kind = 1 → downB D'.ls (s v) = (downB D.ls v != fl)
/-- The image of a dart. -/
def imgM (n : Nat) (s : Nat → Nat) (rv sm : Bool) (d : Nat) : Nat :=
  if sm then leaveM n (s (endM n d)) (!(decide (d % 2 = 1) != rv)) else arrM n (s (endM n d)) (decide (d % 2 = 1) != rv)
theorem img_arr {n v : Nat} {s : Nat → Nat} {rv sm b : Bool} (h : v < n) : imgM n s rv sm (arrM n v b) = if sm then leaveM n (s v) (!(b != rv)) else arrM n (s v) (b != rv) := by
  obtain ⟨e1, e2⟩ := end_arr h b
  unfold imgM
  rw [e1, e2]
theorem Sim.img_leave {D D' : DM} {s t : Nat → Nat} {rv fl mir sm : Bool} (S : Sim D D' s t rv fl mir sm) {u : Nat} {c : Bool} (h : u < D.n) : imgM D.n s rv sm (leaveM D.n u c) = if sm then arrM D.n (s u) (!(c != rv)) else leaveM D.n (s u) (c != rv) := by
  have hs := S.lt u h
  rw [leave_arr h, img_arr (by split; exact prv_lt h; exact nxt_lt h)]
  have h1 := S.nxt u h
  have h2 := S.prv u h
  have e : s (if c then prvM D.n u else nxtM D.n u) = if (c != rv) then prvM D.n (s u) else nxtM D.n (s u) := by
    cases c <;> cases rv <;> simp_all
  rw [e]
  cases sm
  · simp only [Bool.false_eq_true, if_false]
    rw [leave_arr hs]
  · simp only [if_true]
    rw [leave_arr (by split; exact prv_lt hs; exact nxt_lt hs)]
    cases (c != rv)
    · simp only [Bool.not_false, if_true, if_false, Bool.false_eq_true]
      rw [prv_nxt hs]
    · simp only [Bool.not_true, if_true, if_false, Bool.false_eq_true]
      rw [nxt_prv hs]
theorem Sim.img_inv {D D' : DM} {s t : Nat → Nat} {rv fl mir sm : Bool} (S : Sim D D' s t rv fl mir sm) (S' : Sim D' D t s rv fl mir sm) {d : Nat} (h : d < 2 * D.n) : imgM D.n s rv sm d < 2 * D.n ∧ imgM D.n t rv sm (imgM D.n s rv sm d) = d := by
  have hv := end_lt h
  have hs := S.lt _ hv
  rw [← arr_end h]
  generalize endM D.n d = v at hv hs ⊢
  generalize decide (d % 2 = 1) = b
  rw [img_arr hv]
  have hb : ∀ a c : Bool, ((a != c) != c) = a := by decide
  cases sm
  · rw [if_neg (by simp)]
    refine ⟨arr_lt hs _, ?_⟩
    rw [img_arr hs, if_neg (by simp), S.inv v hv, hb]
  · rw [if_pos rfl]
    refine ⟨leave_lt hs _, ?_⟩
    have h1 := S'.img_leave (u := s v) (c := !(b != rv)) (by rw [S.n]; exact hs)
    rw [S.n] at h1
    rw [h1, if_pos rfl, S.inv v hv]
    congr 1
    cases b <;> cases rv <;> rfl
theorem DM.arr_cross {D : DM} {v : Nat} {b : Bool} {l : Lt} (hv : v < D.n) (hl : D.ls[v]? = some l) (hk : l.kind = 2) : D.left (arrM D.n v b) = leaveM D.n (D.ot.getD v 0) (b == (l.over == decide (l.sign = 1))) := by
  obtain ⟨e1, e2⟩ := end_arr hv b
  rw [DM.left_cross (by rw [e1]; exact hl) hk, e1, e2]
theorem DM.arr_pass {D : DM} (g : D.good) {v : Nat} {b : Bool} {l : Lt} (hv : v < D.n) (hl : D.ls[v]? = some l) (hk : l.kind = 1) :
    D.left (arrM D.n v b) = leaveM D.n (D.ax.getD (nextM D.m (D.sp.getD v 0) (downB D.ls v == !b)) 0) (downB D.ls (D.ax.getD (nextM D.m (D.sp.getD v 0) (downB D.ls v == !b)) 0) == (downB D.ls v == !b)) := by
  obtain ⟨e1, e2⟩ := end_arr hv b
  have hd := arr_lt hv b
  have hc := comes g hd (by rw [e1]; exact hl) hk
  have hu : D.ab.getD (arrM D.n v b / 2) false = (downB D.ls v == !b) := by
    rw [e1] at hc
    have e3 : decide (arrM D.n v b % 2 = 0) = !b := by
      have e4 : ∀ k : Nat, k % 2 = 0 ∨ k % 2 = 1 := fun k => Nat.mod_two_eq_zero_or_one k
      revert e2
      generalize arrM D.n v b = k
      intro e2
      rw [← e2]
      rcases e4 k with q | q <;> rw [q] <;> rfl
    rw [e3] at hc
    by_cases q : downB D.ls v = !b
    · rw [hc.1 q, q]; simp
    · have h1 : D.ab.getD (arrM D.n v b / 2) false = false := by
        cases hh : D.ab.getD (arrM D.n v b / 2) false with
        | false => rfl
        | true => exact absurd (hc.2 hh) q
      rw [h1]
      revert q
      cases downB D.ls v <;> cases b <;> simp
  rw [DM.left_pass (by rw [e1]; exact hl) hk, e1, hu]
  generalize (downB D.ls v == !b) = u
  have hs := (g.spa v l hl hk).1
  obtain ⟨p, hp, kp, _⟩ := g.axp _ (nextM_lt (u := u) hs)
  rw [g.ab, above_down hp kp]
  congr 1
  cases downB D.ls (D.ax.getD (nextM D.m (D.sp.getD v 0) u) 0) <;> cases u <;> rfl
theorem next_up {m s : Nat} (h : s < m) : nextM m s true = nxtM m s := by
  unfold nextM
  rw [if_pos rfl, Nat.add_mod_right, nxt_mod h]
theorem next_dn {m s : Nat} (h : s < m) : nextM m s false = prvM m s := by
  unfold nextM
  rw [if_neg (by simp), prv_mod h]
theorem next_back {m s : Nat} (u : Bool) (h : s < m) : nextM m (nextM m s u) (!u) = s := by
  cases u
  · rw [next_dn h]
    show nextM m (prvM m s) true = s
    rw [next_up (prv_lt h), nxt_prv h]
  · rw [next_up h]
    show nextM m (nxtM m s) false = s
    rw [next_dn (nxt_lt h), prv_nxt h]
theorem next_mir {m s : Nat} (u : Bool) (h : s < m) : nextM m (m - 1 - s) u = m - 1 - nextM m s (!u) := by
  have h2 : m - 1 - s < m := by omega
  cases u
  · rw [next_dn h2]
    show _ = m - 1 - nextM m s true
    rw [next_up h]
    unfold prvM nxtM
    split <;> split <;> omega
  · rw [next_up h2]
    show _ = m - 1 - nextM m s false
    rw [next_dn h]
    unfold prvM nxtM
    split <;> split <;> omega
theorem Sim.step {D D' : DM} {s t : Nat → Nat} {rv fl mir sm : Bool} (S : Sim D D' s t rv fl mir sm) (g : D.good) (g' : D'.good) {x : Nat} (hx : x < 2 * D.n) :
    Orb D'.left (2 * D.n) (imgM D.n s rv sm x) (imgM D.n s rv sm (D.left x)) := by
  have hv := end_lt hx
  rw [← arr_end hx]
  generalize endM D.n x = v at hv ⊢
  generalize decide (x % 2 = 1) = b
  have hs := S.lt v hv
  have hn := S.n
  have hs' : s v < D'.n := by rw [hn]; exact hs
  obtain ⟨l, hl⟩ : ∃ l, D.ls[v]? = some l := ⟨_, List.getElem?_eq_getElem (by rw [g.ok.ls]; exact hv)⟩
  obtain ⟨l', hl', hk', hsm⟩ := S.kind v l hl
  rcases g.kind v l hl with hk | hk
  · -- a pass
    obtain ⟨hsp, hax⟩ := g.spa v l hl hk
    rw [DM.arr_pass g hv hl hk]
    obtain ⟨u, hu⟩ : ∃ u, (downB D.ls v == !b) = u := ⟨_, rfl⟩
    rw [hu]
    have hnm := nextM_lt (u := u) hsp
    obtain ⟨p, hp, kp, hspw⟩ := g.axp _ hnm
    obtain ⟨w, hw⟩ : ∃ w, D.ax.getD (nextM D.m (D.sp.getD v 0) u) 0 = w := ⟨_, rfl⟩
    rw [hw] at hp hspw ⊢
    have hwn := g.lt hp
    have hsw := S.lt w hwn
    obtain ⟨p', hp', kp', _⟩ := S.kind w p hp
    rw [kp] at kp'
    rw [hk] at hk'
    have dv := S.dn v l hl hk
    have dw := S.dn w p hp kp
    have sv := S.sp v l hl hk
    have sw := S.sp w p hp kp
    rw [hspw] at sw
    obtain ⟨a1, a2⟩ := g'.spa _ _ hp' kp'
    obtain ⟨b1, b2⟩ := g'.spa _ _ hl' hk'
    cases hsmv : sm with
    | false =>
      -- left stays left
      have key : D'.left (imgM D.n s rv false (arrM D.n v b)) = imgM D.n s rv false (leaveM D.n w (downB D.ls w == u)) := by
        rw [hsmv] at S
        rw [img_arr hv, S.img_leave hwn]
        simp only [Bool.false_eq_true, if_false]
        rw [← hn, DM.arr_pass g' hs' hl' hk', dv, sv]
        have hup : ((downB D.ls v != fl) == !(b != rv)) = (u != mir) := by
          rw [← hu]
          have := S.flag
          revert this
          cases downB D.ls v <;> cases b <;> cases rv <;> cases fl <;> cases mir <;> simp
        rw [hup]
        have hnx : D'.ax.getD (nextM D'.m (if mir = true then D.m - 1 - D.sp.getD v 0 else D.sp.getD v 0) (u != mir)) 0 = s w := by
          rw [← a2, sw, S.m]
          congr 1
          cases mir
          · simp
          · simp only [if_true]
            rw [next_mir _ hsp]
            cases u <;> rfl
        rw [hnx, dw]
        congr 1
        have := S.flag
        revert this
        cases downB D.ls w <;> cases u <;> cases rv <;> cases fl <;> cases mir <;> simp
      rw [← key]
      refine Orb.fwd (.refl _) ?_
      rw [img_arr hv]
      simp only [Bool.false_eq_true, if_false]
      exact arr_lt hs _
    | true =>
      rw [hsmv] at S
      have key : D'.left (imgM D.n s rv true (leaveM D.n w (downB D.ls w == u))) = imgM D.n s rv true (arrM D.n v b) := by
        rw [img_arr hv, S.img_leave hwn]
        simp only [if_true]
        rw [← hn, DM.arr_pass g' (by rw [hn]; exact hsw) hp' kp', dw, sw]
        have hup : ((downB D.ls w != fl) == !!((downB D.ls w == u) != rv)) = (!u != mir) := by
          have := S.flag
          revert this
          cases downB D.ls w <;> cases u <;> cases rv <;> cases fl <;> cases mir <;> simp
        rw [hup]
        have hnx : D'.ax.getD (nextM D'.m (if mir = true then D.m - 1 - nextM D.m (D.sp.getD v 0) u else nextM D.m (D.sp.getD v 0) u) (!u != mir)) 0 = s v := by
          rw [← b2, sv, S.m]
          congr 1
          cases mir
          · simp only [Bool.false_eq_true, if_false, Bool.bne_false]
            exact next_back u hsp
          · simp only [if_true]
            rw [next_mir _ hnm]
            have e2 : (!(!u != true)) = !u := by cases u <;> rfl
            rw [e2, next_back u hsp]
        rw [hnx, dv]
        congr 1
        have := S.flag
        rw [← hu]
        revert this
        cases downB D.ls v <;> cases b <;> cases rv <;> cases fl <;> cases mir <;> simp
      rw [← key]
      refine (Orb.fwd (.refl _) ?_).symm
      rw [S.img_leave hwn]
      simp only [if_true]
      exact arr_lt hsw _
  · -- a crossing
    obtain ⟨o1, o2, a, ha, ka, _, ho⟩ := g.ot v l hl hk
    obtain ⟨w, hw⟩ : ∃ w, D.ot.getD v 0 = w := ⟨_, rfl⟩
    rw [DM.arr_cross hv hl hk]
    have hov := S.ot v l hl hk
    rw [hw] at ha o2 hov ⊢
    have hwn := g.lt ha
    have hsw := S.lt w hwn
    obtain ⟨a', ha', ka', hsa⟩ := S.kind w a ha
    have how := S.ot w a ha ka
    rw [o2] at how
    have hsa := hsa ka
    have hsm := hsm hk
    rw [hk] at hk'
    rw [ka] at ka'
    have hop : (a.over == decide (a.sign = 1)) = !(l.over == decide (l.sign = 1)) := by
      rcases ho with e | e
      · rw [e]; unfold otherL; rw [ka]; dsimp only; cases a.over <;> cases decide (a.sign = 1) <;> rfl
      · rw [e]; unfold otherL; rw [hk]; dsimp only; cases l.over <;> cases decide (l.sign = 1) <;> rfl
    rw [hop] at hsa
    generalize (l.over == decide (l.sign = 1)) = q at hsm hsa ⊢
    cases hsmv : sm with
    | false =>
      rw [hsmv] at S hsm
      have key : D'.left (imgM D.n s rv false (arrM D.n v b)) = imgM D.n s rv false (leaveM D.n w (b == q)) := by
        rw [img_arr hv, S.img_leave hwn]
        simp only [Bool.false_eq_true, if_false]
        rw [← hn, DM.arr_cross hs' hl' hk', hov, hsm]
        congr 1
        cases b <;> cases rv <;> cases q <;> rfl
      rw [← key]
      refine Orb.fwd (.refl _) ?_
      rw [img_arr hv]
      simp only [Bool.false_eq_true, if_false]
      exact arr_lt hs _
    | true =>
      rw [hsmv] at S hsa
      have key : D'.left (imgM D.n s rv true (leaveM D.n w (b == q))) = imgM D.n s rv true (arrM D.n v b) := by
        rw [img_arr hv, S.img_leave hwn]
        simp only [if_true]
        rw [← hn, DM.arr_cross (by rw [hn]; exact hsw) ha' ka', how, hsa]
        congr 1
        cases b <;> cases rv <;> cases q <;> rfl
      rw [← key]
      refine (Orb.fwd (.refl _) ?_).symm
      rw [S.img_leave hwn]
      simp only [if_true]
      exact arr_lt hsw _
/-- Images have as many faces. -/
theorem Sim.count {D D' : DM} {s t : Nat → Nat} {rv fl mir sm : Bool} (S : Sim D D' s t rv fl mir sm) (S' : Sim D' D t s rv fl mir sm) (g : D.good) (g' : D'.good) :
    (D'.outer (2 * D'.n)).all.length = (D.outer (2 * D.n)).all.length := by
  refine outer_count (fun x hx => DM.left_lt g.ok hx) (fun x y hx hy h => DM.left_inj g hx hy h) (fun x hx => DM.left_lt g'.ok hx) (fun x y hx hy h => DM.left_inj g' hx hy h) (imgM D.n s rv sm) (imgM D.n t rv sm) S.n (fun x hx => S.img_inv S' hx) (fun x hx => ?_) (fun x hx => S.step g g' hx) (fun x hx => ?_)
  · have h := S'.img_inv S (d := x) (by rw [S.n]; exact hx)
    rw [S.n] at h
    exact h
  · have h := S'.step g' g (x := x) (by rw [S.n]; exact hx)
    rw [S.n] at h
    exact h

end Go.Proofs.YtbbpockkafbfmaaDoor

/-
  Images of a valid code are valid (pure).
-/
namespace Go.Proofs.YtbbpockkafbfmaaDoor
open Go.RowKit

/-- The other way round. -/
theorem Sim.symm {D D' : DM} {s t : Nat → Nat} {rv fl mir sm : Bool} (S : Sim D D' s t rv fl mir sm) (g : D.good) (g' : D'.good) (ht : ∀ v, v < D.n → t v < D.n ∧ s (t v) = v) : Sim D' D t s rv fl mir sm := by
  have hn := S.n
  have back : ∀ v l', D'.ls[v]? = some l' → ∃ l, v < D.n ∧ D.ls[t v]? = some l ∧ l'.kind = l.kind ∧ (l.kind = 2 → (l'.over == decide (l'.sign = 1)) = ((l.over == decide (l.sign = 1)) != sm)) := by
    intro v l' hl'
    have hv : v < D.n := by rw [← hn]; exact g'.lt hl'
    obtain ⟨h1, h2⟩ := ht v hv
    obtain ⟨l, hl⟩ : ∃ l, D.ls[t v]? = some l := ⟨_, List.getElem?_eq_getElem (by rw [g.ok.ls]; exact h1)⟩
    obtain ⟨l2, e1, e2, e3⟩ := S.kind _ l hl
    rw [h2, hl'] at e1
    injection e1 with e1
    subst e1
    exact ⟨l, hv, hl, e2, e3⟩
  refine ⟨hn.symm, S.m.symm, S.flag, fun v hv => ?_, fun v hv => ?_, fun v hv => ?_, fun v hv => ?_, fun v l' hl' => ?_, fun v l' hl' hk' => ?_, fun v l' hl' hk' => ?_, fun v l' hl' hk' => ?_⟩
  · rw [hn] at hv ⊢; exact (ht v hv).1
  · rw [hn] at hv; exact (ht v hv).2
  · rw [hn] at hv ⊢
    obtain ⟨h1, h2⟩ := ht v hv
    have hvn := nxt_lt hv
    cases hrv : rv with
    | false =>
      have h3 := S.nxt (t v) h1
      rw [hrv, if_neg (by simp), h2] at h3
      rw [if_neg (by simp), ← h3, S.inv _ (nxt_lt h1)]
    | true =>
      have h3 := S.prv (t v) h1
      rw [hrv, if_pos rfl, h2] at h3
      rw [if_pos rfl, ← h3, S.inv _ (prv_lt h1)]
  · rw [hn] at hv ⊢
    obtain ⟨h1, h2⟩ := ht v hv
    cases hrv : rv with
    | false =>
      have h3 := S.prv (t v) h1
      rw [hrv, if_neg (by simp), h2] at h3
      rw [if_neg (by simp), ← h3, S.inv _ (prv_lt h1)]
    | true =>
      have h3 := S.nxt (t v) h1
      rw [hrv, if_pos rfl, h2] at h3
      rw [if_pos rfl, ← h3, S.inv _ (nxt_lt h1)]
  · obtain ⟨l, hv, hl, e2, e3⟩ := back v l' hl'
    refine ⟨l, hl, e2.symm, fun hk => ?_⟩
    have h4 := e3 (by rw [← e2]; exact hk)
    rw [h4]
    cases (l.over == decide (l.sign = 1)) <;> cases sm <;> rfl
  · obtain ⟨l, hv, hl, e2, _⟩ := back v l' hl'
    obtain ⟨h1, h2⟩ := ht v hv
    have h4 := S.ot _ l hl (by rw [← e2]; exact hk')
    rw [h2] at h4
    rw [h4, S.inv _ (g.ok.otb _ h1)]
  · obtain ⟨l, hv, hl, e2, _⟩ := back v l' hl'
    obtain ⟨h1, h2⟩ := ht v hv
    have hk : l.kind = 1 := by rw [← e2]; exact hk'
    have h4 := S.sp _ l hl hk
    have h5 := (g.spa _ l hl hk).1
    rw [h2] at h4
    rw [h4, S.m]
    cases mir
    · simp
    · simp only [if_true]; omega
  · obtain ⟨l, hv, hl, e2, _⟩ := back v l' hl'
    obtain ⟨h1, h2⟩ := ht v hv
    have hk : l.kind = 1 := by rw [← e2]; exact hk'
    have h4 := S.dn _ l hl hk
    rw [h2] at h4
    rw [h4]
    cases downB D.ls (t v) <;> cases fl <;> rfl

/-- Letters that are moved by s and changed by h. -/
theorem sim_of {f f' : Int} {ls ls' : List Lt} {st st' : OrdS} {pt pt' : PairS} (hp : ∀ l, l ∈ ls → plainL f l) (hp' : ∀ l, l ∈ ls' → plainL f' l) (ho : ordM ls (numP f ls) ls.length ls.length = some st) (ho' : ordM ls' (numP f' ls') ls'.length ls'.length = some st')
    (g : (dmOf f ls st pt).good) (g' : (dmOf f' ls' st' pt').good) {s t : Nat → Nat} {rv fl mir sm : Bool} (h : Lt → Lt) (hlen : ls'.length = ls.length) (hcp : cntB isPass ls' = cntB isPass ls) (flag : sm = ((fl != rv) != mir))
    (lt : ∀ v, v < ls.length → s v < ls.length) (inv : ∀ v, v < ls.length → t (s v) = v) (nxt : ∀ v, v < ls.length → s (nxtM ls.length v) = if rv then prvM ls.length (s v) else nxtM ls.length (s v)) (prv : ∀ v, v < ls.length → s (prvM ls.length v) = if rv then nxtM ls.length (s v) else prvM ls.length (s v))
    (hat : ∀ v l, ls[v]? = some l → ls'[s v]? = some (h l)) (hk : ∀ l, l ∈ ls → (h l).kind = l.kind) (hs : ∀ l, l ∈ ls → l.kind = 2 → ((h l).over == decide ((h l).sign = 1)) = ((l.over == decide (l.sign = 1)) != sm))
    (hid : ∀ l o, l ∈ ls → o ∈ ls → l.kind = 2 → o.kind = 2 → o.id = l.id → (h o).id = (h l).id) (hsp : ∀ l, l ∈ ls → l.kind = 1 → spot ls' (h l) = if mir then numP f ls - 1 - spot ls l else spot ls l)
    (hdn : ∀ v l, ls[v]? = some l → l.kind = 1 → downB ls' (s v) = (downB ls v != fl)) : Sim (dmOf f ls st pt) (dmOf f' ls' st' pt') s t rv fl mir sm := by
  have hm : numP f' ls' = numP f ls := by
    have h1 := numP_pass hp
    have h2 := numP_pass hp'
    omega
  have I := ordM_inv hp (Nat.le_refl _) ho
  have I' := ordM_inv hp' (Nat.le_refl _) ho'
  refine ⟨hlen, hm, flag, lt, inv, nxt, prv, fun v l hl => ⟨h l, hat v l hl, hk l (List.mem_of_getElem? hl), hs l (List.mem_of_getElem? hl)⟩, fun v l hl hk2 => ?_, fun v l hl hk1 => ?_, hdn⟩
  · obtain ⟨o1, _, a, ha, ka, ia, _⟩ := g.ot v l hl hk2
    have hml := List.mem_of_getElem? hl
    have hma := List.mem_of_getElem? ha
    have h1 := hat v l hl
    have h2 := hat _ a ha
    have k1 : (h l).kind = 2 := (hk l hml).trans hk2
    have k2 : (h a).kind = 2 := (hk a hma).trans ka
    have hia := hid l a hml hma hk2 ka ia
    obtain ⟨p1, _, b, hb, kb, ib, _⟩ := g'.ot _ _ h1 k1
    have hvn : v < ls.length := lt_len hl
    have hun : (dmOf f ls st pt).ot.getD v 0 < ls.length := lt_len ha
    have hne : s v ≠ s ((dmOf f ls st pt).ot.getD v 0) := fun e => by
      have := inv v hvn
      rw [e, inv _ hun] at this
      exact o1 this
    have two := g'.two _ _ h1 k1
    rcases idx_pair (p := isId (h l).id) two hne h1 h2 hb (by simp [isId, k1]) (by simp [isId, k2, hia]) (by simp [isId, kb, ib]) with e | e
    · exact absurd e p1
    · exact e
  · have hml := List.mem_of_getElem? hl
    have h1 := hat v l hl
    have h2 := (I.at_ v l (lt_len hl) hl hk1).1
    have h3 := (I'.at_ _ _ (lt_len h1) h1 ((hk l hml).trans hk1)).1
    show st'.sp.getD (s v) 0 = if mir then numP f ls - 1 - st.sp.getD v 0 else st.sp.getD v 0
    rw [h3, h2, hsp l hml hk1]

/-- An image with as many letters is valid if its letters are well formed. -/
theorem valid_sim {f f' : Int} {ls ls' : List Lt} {s t : Nat → Nat} {rv fl mir sm : Bool} (hv : checkE f ls = 0) (h0 : 0 < ls.length) (hf' : 0 ≤ f' ∧ f' ≤ 40) (hlen : ls'.length = ls.length) (hc2 : cntK 2 ls' = cntK 2 ls) (hcl : closedB ls' = true)
    (hr : ∀ l, l ∈ ls' → refL f' ls' l) (ht : ∀ v, v < ls.length → t v < ls.length ∧ s (t v) = v)
    (hS : ∀ st pt st' pt', (∀ l, l ∈ ls' → plainL f' l) → ordM ls (numP f ls) ls.length ls.length = some st → ordM ls' (numP f' ls') ls'.length ls'.length = some st' → (dmOf f ls st pt).good → (dmOf f' ls' st' pt').good → Sim (dmOf f ls st pt) (dmOf f' ls' st' pt') s t rv fl mir sm) : checkE f' ls' = 0 := by
  obtain ⟨h1, h2, h3, h4, st, pt, ho, hq, hf⟩ := checkE_all hv
  obtain ⟨hp', ⟨st', ho'⟩, pt', hq'⟩ := valid_iff.1 hr
  have hs' : shortB ls' = true := by
    unfold shortB at h1 ⊢
    rw [hlen, hc2]; exact h1
  have g := dmOf_good h1 h2 h3 h4 h0 ho hq
  have g' := dmOf_good hs' hf' hcl hp' (by omega) ho' hq'
  have S := hS st pt st' pt' hp' ho ho' g g'
  have hcount := S.count (S.symm g g' ht) g g'
  refine checkE_make hs' hf' hcl hp' ho' hq' ?_
  unfold flatB at hf ⊢
  have e0 : decide ((dmOf f ls st pt).n = 0) = false := by rw [decide_eq_false_iff_not]; show ¬ ls.length = 0; omega
  rw [e0, Bool.false_or, decide_eq_true_iff] at hf
  rw [hcount, hf, S.m]
  show (_ || decide (_ + cntK 2 ls / 2 + 2 = _ + cntK 2 ls' / 2 + 2)) = true
  rw [hc2]
  simp

/-- How many letters of a kind there are in a list of changed letters. -/
theorem cntB_map {p q : Lt → Bool} {h : Lt → Lt} {ls : List Lt} (e : ∀ o, o ∈ ls → p (h o) = q o) : cntB p (ls.map h) = cntB q ls := by
  unfold cntB
  rw [List.filter_map, List.length_map]
  congr 2
  exact List.filter_congr e
theorem befG_congr {ls ls' : List Lt} (h : ∀ g, cntB (inGate g) ls' = cntB (inGate g) ls) : ∀ k, befG ls' k = befG ls k
  | 0 => rfl
  | k + 1 => by rw [befG, befG, befG_congr h k, h]
theorem spot_congr {ls ls' : List Lt} {a b : Lt} (h : ∀ g, cntB (inGate g) ls' = cntB (inGate g) ls) (hg : b.gate = a.gate) (hr : b.rank = a.rank) : spot ls' b = spot ls a := by
  unfold spot
  rw [befG_congr h, hg, hr]

theorem refL_map {f f' : Int} {ls : List Lt} {h : Lt → Lt} (hk : ∀ l, l ∈ ls → (h l).kind = l.kind)
    (h1 : ∀ l, l ∈ ls → l.kind = 1 → (h l).id = 0 ∧ (h l).sign = 0 ∧ (h l).over = false ∧ 0 ≤ (h l).gate ∧ (h l).gate ≤ f' ∧ 1 ≤ (h l).rank ∧ (h l).rank ≤ cntB (inGate (h l).gate) (ls.map h))
    (h1i : ∀ l o, l ∈ ls → o ∈ ls → l.kind = 1 → o.kind = 1 → (h o).gate = (h l).gate → (h o).rank = (h l).rank → o.gate = l.gate ∧ o.rank = l.rank)
    (h2 : ∀ l, l ∈ ls → l.kind = 2 → (h l).gate = 0 ∧ (h l).rank = 0 ∧ ((h l).sign = 1 ∨ (h l).sign = -1) ∧ 1 ≤ (h l).id ∧ (h l).id ≤ cntK 2 ls / 2)
    (h2p : ∀ l o, l ∈ ls → o ∈ ls → l.kind = 2 → o.kind = 2 → pairP (h l) (h o) = pairP l o) (h2i : ∀ l o, l ∈ ls → o ∈ ls → l.kind = 2 → o.kind = 2 → ((h o).id = (h l).id ↔ o.id = l.id))
    (hr : ∀ l, l ∈ ls → refL f ls l) : ∀ l, l ∈ ls.map h → refL f' (ls.map h) l := by
  have hkk : cntK 2 (ls.map h) = cntK 2 ls := by
    rw [cntK_cntB, cntK_cntB]
    exact cntB_map (fun o ho => by rw [hk o ho])
  intro l' hl'
  obtain ⟨l, hl, rfl⟩ := List.mem_map.1 hl'
  rcases hr l hl with c | c
  · left
    obtain ⟨a1, a2, a3, a4, a5, a6, a7⟩ := h1 l hl c.1
    refine ⟨(hk l hl).trans c.1, a1, a2, a3, a4, a5, a6, a7, ?_⟩
    rw [cntB_map (q := sameP l)]
    · exact c.2.2.2.2.2.2.2.2
    · intro o ho
      unfold sameP
      rw [hk o ho, hk l hl]
      by_cases e : o.kind = l.kind
      · rw [decide_eq_true e, Bool.true_and, Bool.true_and]
        have ko : o.kind = 1 := e.trans c.1
        rw [← Bool.decide_and, ← Bool.decide_and, decide_eq_decide]
        refine ⟨fun q => h1i l o hl ho c.1 ko q.1 q.2, fun q => ?_⟩
        have hol : o = l := by
          rcases hr o ho with d | d
          · exact Lt.ext e q.1 q.2 (d.2.1.trans c.2.1.symm) (d.2.2.1.trans c.2.2.1.symm) (d.2.2.2.1.trans c.2.2.2.1.symm)
          · rw [d.1] at ko; cases ko
        rw [hol]
        exact ⟨rfl, rfl⟩
      · rw [decide_eq_false e]; rfl
  · right
    obtain ⟨a1, a2, a3, a4, a5⟩ := h2 l hl c.1
    refine ⟨(hk l hl).trans c.1, a1, a2, a3, a4, by rw [hkk]; exact a5, ?_, ?_⟩
    · rw [cntB_map (q := pairP l)]
      · exact c.2.2.2.2.2.2.1
      · intro o ho
        by_cases ko : o.kind = 2
        · exact h2p l o hl ho c.1 ko
        · unfold pairP
          rw [hk o ho, hk l hl, decide_eq_false (show ¬ o.kind = l.kind by rw [c.1]; exact ko)]
          rfl
    · rw [cntB_map (q := isId l.id)]
      · exact c.2.2.2.2.2.2.2
      · intro o ho
        unfold isId
        rw [hk o ho]
        by_cases ko : o.kind = 2
        · rw [decide_eq_true ko, Bool.true_and, Bool.true_and, decide_eq_decide]
          exact h2i l o hl ho c.1 ko
        · rw [decide_eq_false ko]; rfl

theorem downB_map {ls : List Lt} {h : Lt → Lt} (hk : ∀ l, l ∈ ls → (h l).kind = l.kind) (i : Nat) : downB (ls.map h) i = downB ls i := by
  unfold downB
  rw [← List.map_take, cntB_map (q := isPass)]
  intro o ho
  unfold isPass
  rw [hk o (List.mem_of_mem_take ho)]
theorem cntP_map {ls : List Lt} {h : Lt → Lt} (hk : ∀ l, l ∈ ls → (h l).kind = l.kind) : cntB isPass (ls.map h) = cntB isPass ls :=
  cntB_map (fun o ho => by unfold isPass; rw [hk o ho])
theorem cnt2_map {ls : List Lt} {h : Lt → Lt} (hk : ∀ l, l ∈ ls → (h l).kind = l.kind) : cntK 2 (ls.map h) = cntK 2 ls := by
  rw [cntK_cntB, cntK_cntB]
  exact cntB_map (fun o ho => by rw [hk o ho])
theorem closed_map {ls : List Lt} {h : Lt → Lt} (hk : ∀ l, l ∈ ls → (h l).kind = l.kind) : closedB (ls.map h) = closedB ls := by
  unfold closedB
  rw [cntP_map hk, List.length_map]
  cases ls with
  | nil => rfl
  | cons a r =>
    have : isPass (h a) = isPass a := by unfold isPass; rw [hk a List.mem_cons_self]
    simp [this]
theorem refs_of {f : Int} {ls : List Lt} (hv : checkE f ls = 0) : ∀ l, l ∈ ls → refL f ls l := by
  obtain ⟨_, _, _, h4, st, pt, ho, hq, _⟩ := checkE_all hv
  exact valid_iff.2 ⟨h4, ⟨st, ho⟩, pt, hq⟩
theorem even_of {f : Int} {ls : List Lt} (hv : checkE f ls = 0) (h0 : 0 < ls.length) : cntB isPass ls % 2 = 0 := by
  obtain ⟨_, _, h3, _⟩ := checkE_all hv
  cases ls with
  | nil => simp at h0
  | cons a r =>
    unfold closedB at h3
    simp [isPass] at h3
    simpa [isPass] using h3.2

end Go.Proofs.YtbbpockkafbfmaaDoor
