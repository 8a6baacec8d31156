/-
  In a code that can be drawn in the plane both visits of a crossing lie on one side of the axis (pure).
-/
import Derived.Test.YtbbpockkafbfmaaDoorEul
namespace Go.Proofs.YtbbpockkafbfmaaDoor
open Go.RowKit

/-! ## Exchanges along all edges -/
def revM (d : Nat) : Nat := if d % 2 = 0 then d + 1 else d - 1
theorem rev_lt {n d : Nat} (h : d < 2 * n) : revM d < 2 * n := by unfold revM; split <;> omega
theorem rev_rev (d : Nat) : revM (revM d) = d := by unfold revM; split <;> split <;> omega
theorem rev_half (d : Nat) : revM d / 2 = d / 2 := by unfold revM; split <;> omega
def edgesM (es : List Nat) : List (Nat × Nat) := es.map fun e => (2 * e, 2 * e + 1)
theorem swAll_edges (T : Nat → Nat) : ∀ (es : List Nat), es.Nodup → ∀ x, swAll T (edgesM es) x = if x / 2 ∈ es then T (revM x) else T x
  | [], _, x => by simp [edgesM, swAll]
  | e :: es, hn, x => by
    obtain ⟨h1, h2⟩ := List.nodup_cons.1 hn
    have ih := swAll_edges T es h2
    show swT (swAll T (edgesM es)) (2 * e) (2 * e + 1) x = _
    unfold swT
    by_cases a : x = 2 * e
    · rw [if_pos a, ih, if_neg (by rw [show (2 * e + 1) / 2 = e by omega]; exact h1), if_pos (by rw [show x / 2 = e by omega]; exact List.mem_cons_self ..)]
      have : revM x = 2 * e + 1 := by unfold revM; rw [if_pos (by omega)]; omega
      rw [this]
    · rw [if_neg a]
      by_cases b : x = 2 * e + 1
      · rw [if_pos b, ih, if_neg (by rw [show (2 * e) / 2 = e by omega]; exact h1), if_pos (by rw [show x / 2 = e by omega]; exact List.mem_cons_self ..)]
        have : revM x = 2 * e := by unfold revM; rw [if_neg (by omega)]; omega
        rw [this]
      · rw [if_neg b, ih]
        have hne : x / 2 ≠ e := by omega
        by_cases c : x / 2 ∈ es
        · rw [if_pos c, if_pos (List.mem_cons_of_mem _ c)]
        · rw [if_neg c, if_neg (fun q => by rcases List.mem_cons.1 q with q | q; exact hne q; exact c q)]
theorem mrg_sub {E : Nat → Nat → Prop} : ∀ (l : List (Nat × Nat)) {x y : Nat}, E x y → mrgAll E l x y
  | [], _, _, h => h
  | _ :: l, _, _, h => .inl (mrg_sub l h)
theorem mrg_mem {E : Nat → Nat → Prop} (hE : ∀ x, E x x) : ∀ (l : List (Nat × Nat)) {p : Nat × Nat}, p ∈ l → mrgAll E l p.1 p.2
  | q :: l, p, h => by
    rcases List.mem_cons.1 h with rfl | h
    · exact .inr (.inl ⟨mrg_sub l (hE _), mrg_sub l (hE _)⟩)
    · exact .inl (mrg_mem hE l h)
theorem orb_congr {T S : Nat → Nat} {N : Nat} (h : ∀ x, x < N → T x = S x) {x y : Nat} (q : Orb T N x y) : Orb S N x y := by
  induction q with
  | refl => exact .refl _
  | fwd _ hy ih => rw [h _ hy]; exact .fwd ih hy
  | bwd _ hy ih => rw [h _ hy] at ih; exact .bwd ih hy
theorem cls_reps {E : Nat → Nat → Prop} (h : Eqv E) {N : Nat} {R : List Nat} (hR : Reps E N R) : cls E N = R.length := by
  refine Reps.len h.symm h.trans (R := (List.range N).filter (lstB E)) ⟨List.nodup_range.filter _, fun x hx => List.mem_range.1 (List.mem_filter.1 hx).1, fun x hx => ?_, fun a b ha hb he => ?_⟩ hR
  · obtain ⟨m, h1, h2, h3⟩ := least_in h x
    exact ⟨m, List.mem_filter.2 ⟨List.mem_range.2 (by omega), lstB_iff.2 h3⟩, h2⟩
  · exact least_uniq h he (lstB_iff.1 (List.mem_filter.1 ha).2) (lstB_iff.1 (List.mem_filter.1 hb).2)

/-! ## Darts that leave letters -/
theorem rev_leave {n v : Nat} (h : v < n) (b : Bool) : revM (leaveM n v b) = arrM n v (!b) := by
  unfold revM leaveM arrM
  cases b
  · simp
  · simp only [if_true, Bool.not_true]
    rw [prv_mod h, if_neg (by omega)]
    simp
theorem leave_of {n x : Nat} (h : x < 2 * n) : ∃ v b, v < n ∧ x = leaveM n v b := by
  have h1 := arr_end (rev_lt h)
  refine ⟨endM n (revM x), !decide (revM x % 2 = 1), end_lt (rev_lt h), ?_⟩
  have h2 := rev_leave (end_lt (rev_lt h)) (!decide (revM x % 2 = 1))
  rw [Bool.not_not, h1] at h2
  have := congrArg revM h2
  rw [rev_rev, rev_rev] at this
  exact this.symm
theorem leave_half {n v : Nat} (h : v < n) (b : Bool) : leaveM n v b / 2 = if b then prvM n v else v := by
  unfold leaveM
  cases b
  · simp
  · simp only [if_true]; rw [prv_mod h]; omega
theorem vert_leave {n v : Nat} (h : v < n) (b : Bool) : endM n (revM (leaveM n v b)) = v := by
  rw [rev_leave h]; exact (end_arr h _).1

theorem downB_succS {ls : List Lt} {j : Nat} {l : Lt} (h : ls[j]? = some l) : downB ls (j + 1) = (downB ls j != isPass l) := by
  have h1 := cntB_succ (p := isPass) h
  have h2 := cntB_nonneg isPass (ls.take j)
  unfold downB
  rw [h1]
  cases hp : isPass l
  · simp
  · by_cases e : cntB isPass (ls.take j) % 2 = 0
    · have : ¬ (cntB isPass (ls.take j) + 1) % 2 = 0 := by omega
      simp [e, this]
    · have : (cntB isPass (ls.take j) + 1) % 2 = 0 := by omega
      simp [e, this]
theorem next_ltS {m s : Nat} (h : s < m) (u : Bool) : nextM m s u < m := by
  unfold nextM; split <;> exact Nat.mod_lt _ (by omega)
section
variable {D : DM} (g : D.good)
include g
theorem DM.good.len : D.ls.length = D.n := g.ok.ls
theorem DM.good.abn {e : Nat} (h : e < D.n) : D.ab.getD e false = downB D.ls (e + 1) := by rw [g.ab]; exact above_next (by rw [g.len]; exact h)
theorem DM.good.abp {v : Nat} (h : v < D.n) : D.ab.getD (prvM D.n v) false = downB D.ls v := by
  rw [g.abn (prv_lt h)]
  unfold prvM
  split
  · rename_i e
    subst e
    rw [show D.n - 1 + 1 = D.n by omega, down_whole g, down_zero]
  · rw [show v - 1 + 1 = v by omega]
/-- The side of a dart that leaves a letter. -/
theorem side_pass {v : Nat} {l : Lt} (hl : D.ls[v]? = some l) (hk : l.kind = 1) (b : Bool) : D.ab.getD (leaveM D.n v b / 2) false = (downB D.ls v == b) := by
  have hv := g.lt hl
  rw [leave_half hv]
  cases b
  · rw [if_neg (by simp), g.abn hv, downB_succS hl, show isPass l = true by simp [isPass, hk]]
    cases downB D.ls v <;> rfl
  · rw [if_pos rfl, g.abp hv]
    cases downB D.ls v <;> rfl
theorem side_cross {v : Nat} {l : Lt} (hl : D.ls[v]? = some l) (hk : l.kind = 2) (b : Bool) : D.ab.getD (leaveM D.n v b / 2) false = D.ab.getD v false := by
  have hv := g.lt hl
  rw [leave_half hv]
  cases b
  · rw [if_neg (by simp)]
  · rw [if_pos rfl, g.abp hv, g.abn hv, downB_succS hl, show isPass l = false by simp [isPass, hk]]
    cases downB D.ls v <;> rfl

/-- Around a letter. -/
def DM.sig (D : DM) (x : Nat) : Nat := D.left (revM x)
theorem sig_lt : ∀ x, x < 2 * D.n → D.sig x < 2 * D.n := fun _ hx => DM.left_lt g.ok (rev_lt hx)
theorem sig_inj : ∀ x y, x < 2 * D.n → y < 2 * D.n → D.sig x = D.sig y → x = y := fun x y hx hy h => by
  have := congrArg revM (DM.left_inj g (rev_lt hx) (rev_lt hy) h)
  rw [rev_rev, rev_rev] at this
  exact this
theorem sig_cross {v : Nat} {l : Lt} (hl : D.ls[v]? = some l) (hk : l.kind = 2) (b : Bool) : D.sig (leaveM D.n v b) = leaveM D.n (D.ot.getD v 0) ((!b) == (l.over == decide (l.sign = 1))) := by
  have hv := g.lt hl
  unfold DM.sig
  rw [rev_leave hv, DM.arr_cross hv hl hk]
theorem sig_pass {v : Nat} {l : Lt} (hl : D.ls[v]? = some l) (hk : l.kind = 1) (b : Bool) : D.sig (leaveM D.n v b) = leaveM D.n (D.ax.getD (nextM D.m (D.sp.getD v 0) (downB D.ls v == b)) 0) (downB D.ls (D.ax.getD (nextM D.m (D.sp.getD v 0) (downB D.ls v == b)) 0) == (downB D.ls v == b)) := by
  have hv := g.lt hl
  unfold DM.sig
  rw [rev_leave hv, DM.arr_pass g hv hl hk, Bool.not_not]
/-! ## Labels -/
/-- The letter that a dart leaves, by its name; passes by the side. -/
def DM.lab (D : DM) (x : Nat) : Nat :=
  match D.ls[endM D.n (revM x)]? with
  | some l => if l.kind = 2 then min (endM D.n (revM x)) (D.ot.getD (endM D.n (revM x)) 0) else if D.ab.getD (x / 2) false then D.n else D.n + 1
  | none => 0
theorem lab_cross {v : Nat} {l : Lt} (hl : D.ls[v]? = some l) (hk : l.kind = 2) (b : Bool) : D.lab (leaveM D.n v b) = min v (D.ot.getD v 0) := by
  unfold DM.lab
  rw [vert_leave (g.lt hl), hl]
  simp [hk]
theorem lab_pass {v : Nat} {l : Lt} (hl : D.ls[v]? = some l) (hk : l.kind = 1) (b : Bool) : D.lab (leaveM D.n v b) = if (downB D.ls v == b) then D.n else D.n + 1 := by
  unfold DM.lab
  rw [vert_leave (g.lt hl), hl, side_pass g hl hk]
  simp [hk]
theorem lab_sig {x : Nat} (hx : x < 2 * D.n) : D.lab (D.sig x) = D.lab x := by
  obtain ⟨v, b, hv, rfl⟩ := leave_of hx
  obtain ⟨l, hl⟩ : ∃ l, D.ls[v]? = some l := ⟨_, List.getElem?_eq_getElem (by rw [g.len]; exact hv)⟩
  rcases g.kind v l hl with hk | hk
  · rw [sig_pass g hl hk, lab_pass g hl hk]
    obtain ⟨p, hp, hpk, _⟩ := g.axp _ (next_ltS (g.spa v l hl hk).1 (downB D.ls v == b))
    rw [lab_pass g hp hpk]
    generalize downB D.ls (D.ax.getD (nextM D.m (D.sp.getD v 0) (downB D.ls v == b)) 0) = c
    generalize (downB D.ls v == b) = u
    cases c <;> cases u <;> rfl
  · rw [sig_cross g hl hk, lab_cross g hl hk]
    obtain ⟨_, o2, a, ha, ka, _⟩ := g.ot v l hl hk
    rw [lab_cross g ha ka, o2, Nat.min_comm]
theorem lab_orb {x y : Nat} (h : Orb D.sig (2 * D.n) x y) : D.lab x = D.lab y := by
  induction h with
  | refl => rfl
  | fwd _ hy ih => rw [ih, lab_sig g hy]
  | bwd _ hy ih => rw [ih, lab_sig g hy]

omit g in
theorem nodup_filter_map {p : Nat → Bool} {f : Nat → Nat} {n : Nat} (hi : ∀ x y, x < n → y < n → p x = true → p y = true → f x = f y → x = y) : (((List.range n).filter p).map f).Nodup :=
  map_nodup (List.nodup_range.filter _) (fun a b ha hb h => hi a b (List.mem_range.1 (List.mem_filter.1 ha).1) (List.mem_range.1 (List.mem_filter.1 hb).1) (List.mem_filter.1 ha).2 (List.mem_filter.1 hb).2 h)
/-- A visit of a crossing. -/
def DM.isX (D : DM) (v : Nat) : Bool := (D.ls[v]?).any fun l => decide (l.kind = 2)
omit g in
theorem isX_iff {v : Nat} : D.isX v = true ↔ ∃ l, D.ls[v]? = some l ∧ l.kind = 2 := by
  unfold DM.isX
  cases D.ls[v]? with
  | none => simp
  | some l => simp
/-- The letters that are the first visits of their crossings. -/
def DM.firsts (D : DM) : List Nat := (List.range D.n).filter fun v => D.isX v && decide (v < D.ot.getD v 0)
theorem otX {v : Nat} (h : D.isX v = true) : D.isX (D.ot.getD v 0) = true ∧ D.ot.getD v 0 < D.n ∧ D.ot.getD v 0 ≠ v ∧ D.ot.getD (D.ot.getD v 0) 0 = v := by
  obtain ⟨l, hl, hk⟩ := isX_iff.1 h
  obtain ⟨o1, o2, a, ha, ka, _⟩ := g.ot v l hl hk
  exact ⟨isX_iff.2 ⟨a, ha, ka⟩, g.lt ha, o1, o2⟩
omit g in
theorem cnt_range (ls : List Lt) (p : Lt → Bool) : ((List.range ls.length).filter fun v => (ls[v]?).any p).length = (ls.filter p).length := by
  induction ls with
  | nil => rfl
  | cons a r ih =>
    rw [List.length_cons, List.range_succ_eq_map, List.filter_cons, List.filter_map, List.filter_cons]
    have e : ((fun v => ((a :: r)[v]?).any p) ∘ Nat.succ) = fun v => (r[v]?).any p := by funext v; simp
    rw [e]
    have e0 : ((a :: r)[0]?).any p = p a := by simp
    rw [e0]
    split <;> simp [ih]
theorem firsts_len : 2 * D.firsts.length = ((List.range D.n).filter D.isX).length := by
  have h1 : D.firsts.length = ((List.range D.n).filter fun v => D.isX v && decide (D.ot.getD v 0 < v)).length := by
    apply Nat.le_antisymm
    · have := nodup_sub (l := D.firsts.map fun v => D.ot.getD v 0) (k := (List.range D.n).filter fun v => D.isX v && decide (D.ot.getD v 0 < v)) (nodup_filter_map (fun x y _ _ hx hy e => by
        rw [Bool.and_eq_true] at hx hy
        rw [← (otX g hx.1).2.2.2, e, (otX g hy.1).2.2.2])) (fun w hw => by
        obtain ⟨v, hv, rfl⟩ := List.mem_map.1 hw
        obtain ⟨_, hp⟩ := List.mem_filter.1 hv
        rw [Bool.and_eq_true, decide_eq_true_iff] at hp
        obtain ⟨o1, o2, o3, o4⟩ := otX g hp.1
        exact List.mem_filter.2 ⟨List.mem_range.2 o2, by rw [o1, o4, decide_eq_true hp.2]; rfl⟩)
      rw [List.length_map] at this; exact this
    · have := nodup_sub (l := ((List.range D.n).filter fun v => D.isX v && decide (D.ot.getD v 0 < v)).map fun v => D.ot.getD v 0) (k := D.firsts) (nodup_filter_map (fun x y _ _ hx hy e => by
        rw [Bool.and_eq_true] at hx hy
        rw [← (otX g hx.1).2.2.2, e, (otX g hy.1).2.2.2])) (fun w hw => by
        obtain ⟨v, hv, rfl⟩ := List.mem_map.1 hw
        obtain ⟨_, hp⟩ := List.mem_filter.1 hv
        rw [Bool.and_eq_true, decide_eq_true_iff] at hp
        obtain ⟨o1, o2, o3, o4⟩ := otX g hp.1
        exact List.mem_filter.2 ⟨List.mem_range.2 o2, by rw [o1, o4, decide_eq_true hp.2]; rfl⟩)
      rw [List.length_map] at this; exact this
  have h2 : ∀ l : List Nat, (∀ v, v ∈ l → D.isX v = true → D.ot.getD v 0 ≠ v) → (l.filter D.isX).length = (l.filter fun v => D.isX v && decide (v < D.ot.getD v 0)).length + (l.filter fun v => D.isX v && decide (D.ot.getD v 0 < v)).length := by
    intro l
    induction l with
    | nil => intro _; rfl
    | cons a r ih =>
      intro h
      have i := ih (fun v hv => h v (List.mem_cons_of_mem _ hv))
      rw [List.filter_cons, List.filter_cons, List.filter_cons]
      cases hx : D.isX a
      · simpa using i
      · have hne := h a (List.mem_cons_self ..) hx
        rcases Nat.lt_or_ge a (D.ot.getD a 0) with q | q
        · rw [decide_eq_true q, decide_eq_false (show ¬ D.ot.getD a 0 < a by omega)]; simp [i]; omega
        · rw [decide_eq_false (show ¬ a < D.ot.getD a 0 by omega), decide_eq_true (show D.ot.getD a 0 < a by omega)]; simp [i]; omega
  have h3 := h2 (List.range D.n) (fun v _ hx => (otX g hx).2.2.1)
  unfold DM.firsts at h1 ⊢
  omega

/-! ## Pieces -/
/-- What hangs together. -/
def DM.joined (D : DM) : Nat → Nat → Prop := mrgAll (Orb D.sig (2 * D.n)) (edgesM (List.range D.n))
theorem joined_eqv : Eqv D.joined := (euler_le (sig_lt g) (sig_inj g) (edgesM (List.range D.n)) (fun p hp => by
  obtain ⟨e, he, rfl⟩ := List.mem_map.1 hp
  have := List.mem_range.1 he
  exact ⟨by show 2 * e < _; omega, by show 2 * e + 1 < _; omega⟩)).2.2.1
omit g in
theorem joined_sig {x : Nat} (h : x < 2 * D.n) : D.joined x (D.sig x) := mrg_sub _ ((Orb.refl x).fwd h)
omit g in
theorem joined_edge {e : Nat} (h : e < D.n) : D.joined (2 * e) (2 * e + 1) := mrg_mem (E := Orb D.sig (2 * D.n)) (fun x => .refl x) (edgesM (List.range D.n)) (p := (2 * e, 2 * e + 1)) (List.mem_map.2 ⟨e, List.mem_range.2 h, rfl⟩)
/-- Both darts that leave a letter which is crossed hang together. -/
theorem joined_cross {v : Nat} {l : Lt} (hl : D.ls[v]? = some l) (hk : l.kind = 2) : D.joined (leaveM D.n v false) (leaveM D.n v true) := by
  have hE := joined_eqv g
  have hv := g.lt hl
  obtain ⟨_, o2, a, ha, ka, _, hol⟩ := g.ot v l hl hk
  have h1 := joined_sig (leave_lt hv false)
  rw [sig_cross g hl hk] at h1
  have h2 := joined_sig (leave_lt (g.lt ha) ((!false) == (l.over == decide (l.sign = 1))))
  rw [sig_cross g ha ka, o2] at h2
  have hs : a.sign = l.sign ∧ a.over = !l.over := by
    rcases hol with h | h
    · obtain ⟨_, _, e1, e2, _⟩ := otherL_facts ka
      rw [← h] at e1 e2
      exact ⟨e1.symm, by rw [e2]; simp⟩
    · obtain ⟨_, _, e1, e2, _⟩ := otherL_facts hk
      rw [← h] at e1 e2
      exact ⟨e1, e2⟩
  rw [hs.1, hs.2] at h2
  have e : ((!((!false) == (l.over == decide (l.sign = 1)))) == ((!l.over) == decide (l.sign = 1))) = true := by
    cases l.over <;> cases decide (l.sign = 1) <;> rfl
  rw [e] at h2
  exact hE.trans _ _ _ h1 h2
/-- The dart that leaves a pass on a side. -/
def DM.up (D : DM) (u : Bool) (p : Nat) : Nat := leaveM D.n p (downB D.ls p == u)
theorem joined_axis (u : Bool) : ∀ q, q < D.m → D.joined (D.up u (D.ax.getD 0 0)) (D.up u (D.ax.getD q 0))
  | 0, _ => (joined_eqv g).refl _
  | q + 1, hq => by
    have hE := joined_eqv g
    have ih := joined_axis u q (by omega)
    refine hE.trans _ _ _ ih ?_
    obtain ⟨l, hl, hk, hs⟩ := g.axp q (by omega)
    obtain ⟨l2, hl2, hk2, hs2⟩ := g.axp (q + 1) hq
    have huu : ∀ c : Bool, (c == (c == u)) = u := by intro c; cases c <;> cases u <;> rfl
    cases u with
    | true =>
      have h := joined_sig (leave_lt (g.lt hl) (downB D.ls (D.ax.getD q 0) == true))
      rw [sig_pass g hl hk, huu, hs] at h
      have e : nextM D.m q true = q + 1 := by
        unfold nextM; rw [if_pos rfl, Nat.add_mod_right, Nat.mod_eq_of_lt hq]
      rw [e] at h
      exact h
    | false =>
      have h := joined_sig (leave_lt (g.lt hl2) (downB D.ls (D.ax.getD (q + 1) 0) == false))
      rw [sig_pass g hl2 hk2, huu, hs2] at h
      have e : nextM D.m (q + 1) false = q := by
        unfold nextM
        rw [if_neg (by simp), show q + 1 + D.m - 1 = q + D.m by omega, Nat.add_mod_right, Nat.mod_eq_of_lt (by omega)]
      rw [e] at h
      exact hE.symm _ _ h
/-- All darts on one side hang together. -/
theorem joined_side (h0 : ∃ l, D.ls[0]? = some l ∧ l.kind = 1) : ∀ e, e < D.n → D.joined (D.up (D.ab.getD e false) (D.ax.getD 0 0)) (2 * e)
  | 0, he => by
    obtain ⟨l, hl, hk⟩ := h0
    obtain ⟨s1, s2⟩ := g.spa 0 l hl hk
    have h := joined_axis g (D.ab.getD 0 false) _ s1
    rw [s2] at h
    have e : D.up (D.ab.getD 0 false) 0 = 2 * 0 := by
      unfold DM.up
      have := side_pass g hl hk false
      rw [leave_half (g.lt hl), if_neg (by simp)] at this
      rw [this]
      have : (downB D.ls 0 == (downB D.ls 0 == false)) = false := by cases downB D.ls 0 <;> rfl
      rw [this]; rfl
    rw [e] at h; exact h
  | e + 1, he => by
    have hE := joined_eqv g
    obtain ⟨l, hl⟩ : ∃ l, D.ls[e + 1]? = some l := ⟨_, List.getElem?_eq_getElem (by rw [g.len]; exact he)⟩
    rcases g.kind _ l hl with hk | hk
    · obtain ⟨s1, s2⟩ := g.spa _ l hl hk
      have h := joined_axis g (D.ab.getD (e + 1) false) _ s1
      rw [s2] at h
      have e2 : D.up (D.ab.getD (e + 1) false) (e + 1) = 2 * (e + 1) := by
        unfold DM.up
        have := side_pass g hl hk false
        rw [leave_half (g.lt hl), if_neg (by simp)] at this
        rw [this]
        have : (downB D.ls (e + 1) == (downB D.ls (e + 1) == false)) = false := by cases downB D.ls (e + 1) <;> rfl
        rw [this]; rfl
      rw [e2] at h; exact h
    · have ih := joined_side h0 e (by omega)
      have hab : D.ab.getD e false = D.ab.getD (e + 1) false := by
        have := side_cross g hl hk true
        rw [leave_half (g.lt hl), if_pos rfl] at this
        unfold prvM at this
        rw [if_neg (by omega)] at this
        exact this
      rw [hab] at ih
      have hj := joined_cross g hl hk
      have e1 : leaveM D.n (e + 1) false = 2 * (e + 1) := rfl
      have e2 : leaveM D.n (e + 1) true = 2 * e + 1 := by
        unfold leaveM; rw [if_pos rfl, prv_mod he]; unfold prvM; rw [if_neg (by omega)]; omega
      rw [e1, e2] at hj
      exact hE.trans _ _ _ (hE.trans _ _ _ ih (joined_edge (by omega))) (hE.symm _ _ hj)
/-- Both visits of a crossing lie on one side. -/
theorem same_side (h0 : ∃ l, D.ls[0]? = some l ∧ l.kind = 1) (hF : (D.outer (2 * D.n)).all.length = D.m + D.firsts.length + 2) (hN : D.n = D.m + 2 * D.firsts.length) {v : Nat} {l : Lt} (hl : D.ls[v]? = some l) (hk : l.kind = 2) :
    D.ab.getD (D.ot.getD v 0) false = D.ab.getD v false := by
  apply Classical.byContradiction
  intro hne
  have hE := joined_eqv g
  have hv := g.lt hl
  obtain ⟨_, o2, a, ha, ka, _⟩ := g.ot v l hl hk
  have hw := g.lt ha
  -- the two sides hang together
  have hboth : ∀ u, D.joined (D.up true (D.ax.getD 0 0)) (D.up u (D.ax.getD 0 0)) := by
    have h1 := joined_side g h0 v hv
    have h2 := joined_side g h0 _ hw
    have h3 := joined_sig (leave_lt hv false)
    rw [sig_cross g hl hk] at h3
    have h4 : D.joined (leaveM D.n (D.ot.getD v 0) ((!false) == (l.over == decide (l.sign = 1)))) (2 * D.ot.getD v 0) := by
      cases ((!false) == (l.over == decide (l.sign = 1)))
      · exact hE.refl _
      · exact hE.symm _ _ (joined_cross g ha ka)
    have h5 := hE.trans _ _ _ (hE.trans _ _ _ h1 (hE.trans _ _ _ h3 h4)) (hE.symm _ _ h2)
    intro u
    cases hx : D.ab.getD v false <;> cases hy : D.ab.getD (D.ot.getD v 0) false <;> rw [hx, hy] at h5 hne
    · exact absurd rfl hne
    · cases u
      · exact hE.symm _ _ h5
      · exact hE.refl _
    · cases u
      · exact h5
      · exact hE.refl _
    · exact absurd rfl hne
  have hall : ∀ x, x < 2 * D.n → D.joined (D.up true (D.ax.getD 0 0)) x := by
    intro x hx
    have h1 := joined_side g h0 (x / 2) (by omega)
    have h2 := hE.trans _ _ _ (hboth (D.ab.getD (x / 2) false)) h1
    by_cases hq : x % 2 = 0
    · rw [show 2 * (x / 2) = x by omega] at h2; exact h2
    · have h3 := hE.trans _ _ _ h2 (joined_edge (D := D) (e := x / 2) (by omega))
      rw [show 2 * (x / 2) + 1 = x by omega] at h3; exact h3
  have hC := cls_le_one (E := D.joined) (2 * D.n) (fun x hx => hE.trans _ _ _ (hE.symm _ _ (hall 0 (by omega))) (hall x hx))
  have hn0 : 0 < D.n := by omega
  -- vertices
  have hV : (D.firsts ++ [D.n, D.n + 1]).length ≤ cls (Orb D.sig (2 * D.n)) (2 * D.n) := by
    refine cls_labels (orb_eqv _ _) D.lab (fun x y h _ _ => lab_orb g h) _ ?_ (fun c hc => ?_)
    · rw [List.nodup_append]
      refine ⟨List.nodup_range.filter _, by simp, fun x hx y hy e => ?_⟩
      have h1 := List.mem_range.1 (List.mem_filter.1 hx).1
      simp at hy
      omega
    · rcases List.mem_append.1 hc with h | h
      · obtain ⟨h1, h2⟩ := List.mem_filter.1 h
        rw [Bool.and_eq_true, decide_eq_true_iff] at h2
        obtain ⟨m, hm, km⟩ := isX_iff.1 h2.1
        exact ⟨leaveM D.n c false, leave_lt (g.lt hm) false, by rw [lab_cross g hm km]; omega⟩
      · obtain ⟨m, hm, km⟩ := h0
        have h1 := lab_pass g hm km
        rw [down_zero] at h1
        simp at h
        rcases h with rfl | rfl
        · exact ⟨leaveM D.n 0 true, leave_lt hn0 true, by rw [h1]; rfl⟩
        · exact ⟨leaveM D.n 0 false, leave_lt hn0 false, by rw [h1]; rfl⟩
  rw [List.length_append] at hV
  simp at hV
  -- faces
  obtain ⟨R, hR, hRl⟩ := outer_reps (D := D) (fun x hx => DM.left_lt g.ok hx) (fun x y hx hy h => DM.left_inj g hx hy h)
  have hFc := cls_reps (orb_eqv D.left (2 * D.n)) hR
  obtain ⟨_, _, _, _, hle⟩ := euler_le (sig_lt g) (sig_inj g) (edgesM (List.range D.n)) (fun p hp => by
    obtain ⟨e, he, rfl⟩ := List.mem_map.1 hp
    have := List.mem_range.1 he
    exact ⟨by show 2 * e < _; omega, by show 2 * e + 1 < _; omega⟩)
  have heq : ∀ x, x < 2 * D.n → swAll D.sig (edgesM (List.range D.n)) x = D.left x := by
    intro x hx
    rw [swAll_edges _ _ List.nodup_range, if_pos (List.mem_range.2 (by omega))]
    unfold DM.sig
    rw [rev_rev]
  have hF2 : cls (Orb D.left (2 * D.n)) (2 * D.n) ≤ cls (Orb (swAll D.sig (edgesM (List.range D.n))) (2 * D.n)) (2 * D.n) := cls_mono (fun x y h => orb_congr heq h)
  have hl2 : (edgesM (List.range D.n)).length = D.n := by unfold edgesM; simp
  rw [hl2] at hle
  have hC' : cls (mrgAll (Orb D.sig (2 * D.n)) (edgesM (List.range D.n))) (2 * D.n) ≤ 1 := hC
  omega
end

end Go.Proofs.YtbbpockkafbfmaaDoor
