/-
  TurnM AxM, one after the other.
-/
import Derived.Test.YtbbpockkafbfmaaDoorOrb
import Derived.Test.YtbbpockkafbfmaaDoorVal

/-
  The reference's map of a valid code turns as the program's does, with the darts of the axis between; so both have the same faces.
-/
namespace Go.Proofs.YtbbpockkafbfmaaDoor
open Go.RowKit

/-- What the map of a valid code keeps to. -/
structure DM.good (D : DM) : Prop where
  ok : D.ok
  even : D.m % 2 = 0
  npass : cntB isPass D.ls = D.m
  ab : D.ab = aboveL D.ls
  kind : ∀ (i : Nat) (l : Lt), D.ls[i]? = some l → l.kind = 1 ∨ l.kind = 2
  axp : ∀ q, q < D.m → ∃ l, D.ls[D.ax.getD q 0]? = some l ∧ l.kind = 1 ∧ D.sp.getD (D.ax.getD q 0) 0 = q
  spa : ∀ (i : Nat) (l : Lt), D.ls[i]? = some l → l.kind = 1 → D.sp.getD i 0 < D.m ∧ D.ax.getD (D.sp.getD i 0) 0 = i
  ot : ∀ (i : Nat) (l : Lt), D.ls[i]? = some l → l.kind = 2 → D.ot.getD i 0 ≠ i ∧ D.ot.getD (D.ot.getD i 0) 0 = i ∧ ∃ a : Lt, D.ls[D.ot.getD i 0]? = some a ∧ a.kind = 2 ∧ a.id = l.id ∧ (l = otherL a ∨ a = otherL l)
  lft : ∀ (i k : Nat) (a b : Lt), D.ls[i]? = some a → D.ls[k]? = some b → a.kind = 1 → b.kind = 1 → ((a.gate < b.gate ∨ a.gate = b.gate ∧ a.rank < b.rank) ↔ D.sp.getD i 0 < D.sp.getD k 0)
  two : ∀ (i : Nat) (l : Lt), D.ls[i]? = some l → l.kind = 2 → cntB (isId l.id) D.ls = 2
theorem getD_is {α : Type} {l : List α} {i : Nat} {x z : α} (h : l[i]? = some x) : l.getD i z = x := by
  rw [List.getD_eq_getElem?_getD, h]; rfl
theorem dmOf_good {f : Int} {ls : List Lt} {st : OrdS} {pt : PairS} (hs : shortB ls = true) (hf : 0 ≤ f ∧ f ≤ 40) (hc : closedB ls = true) (hp : ∀ l, l ∈ ls → plainL f l) (h0 : 0 < ls.length)
    (ho : ordM ls (numP f ls) ls.length ls.length = some st) (hq : pairM ls (cntK 2 ls / 2) ls.length ls.length = some pt) : (dmOf f ls st pt).good := by
  have I := ordM_inv hp (Nat.le_refl _) ho
  have hnp := numP_pass hp
  have hev : numP f ls % 2 = 0 := by
    unfold closedB at hc
    simp at hc
    rcases hc with c | c
    · subst c; simp at h0
    · omega
  have hall : st.tk.count false = 0 := by
    have := I.cnt
    rw [List.take_length] at this
    omega
  have htk : ∀ q, q < numP f ls → st.tk[q]? = some true := by
    intro q hq
    have hlt : q < st.tk.length := by rw [I.ltk]; exact hq
    rw [List.getElem?_eq_getElem hlt]
    cases hb : st.tk[q] with
    | true => rfl
    | false =>
      have := List.count_pos_iff.2 (hb ▸ List.getElem_mem hlt)
      omega
  refine ⟨dmOf_ok hs hf hp h0 ho hq, hev, hnp.symm, rfl, fun i l hl => ?_, fun q hq => ?_, fun i l hl hk => ?_, fun i l hl hk => ?_, fun i k a b ha hb ka kb => ?_, fun i l hl hk => (pair_other hq i l hl hk).2.2.1⟩
  · rcases hp l (List.mem_of_getElem? hl) with c | c
    · exact .inl c.1
    · exact .inr c.1
  · obtain ⟨i, l, hi, hl, hk, hsl⟩ := (I.tk q).1 (htk q hq)
    obtain ⟨e1, e2⟩ := I.at_ i l hi hl hk
    rw [hsl] at e1 e2
    show ∃ l, ls[st.ax.getD q 0]? = some l ∧ l.kind = 1 ∧ st.sp.getD (st.ax.getD q 0) 0 = q
    rw [e2]
    exact ⟨l, hl, hk, e1⟩
  · obtain ⟨e1, e2⟩ := I.at_ i l (lt_len hl) hl hk
    show st.sp.getD i 0 < numP f ls ∧ st.ax.getD (st.sp.getD i 0) 0 = i
    rw [e1]
    exact ⟨(I.ok i l (lt_len hl) hl hk).spot_.2.2, e2⟩
  · obtain ⟨_, _, _, k, a, h1, h2, h3, h4, h5, h6, h7⟩ := pair_other hq i l hl hk
    show pt.ot.getD i 0 ≠ i ∧ pt.ot.getD (pt.ot.getD i 0) 0 = i ∧ ∃ a : Lt, ls[pt.ot.getD i 0]? = some a ∧ a.kind = 2 ∧ a.id = l.id ∧ (l = otherL a ∨ a = otherL l)
    rw [getD_is h6]
    exact ⟨h1, getD_is h7, a, h2, h3, h4, h5⟩
  · show _ ↔ st.sp.getD i 0 < st.sp.getD k 0
    rw [(I.at_ i a (lt_len ha) ha ka).1, (I.at_ k b (lt_len hb) hb kb).1]
    exact (I.ok i a (lt_len ha) ha ka).left (I.ok k b (lt_len hb) hb kb)

/-- The reference's map: the dart that leaves a letter along the string. -/
def alongM (n i : Nat) (fw : Bool) : Nat := if fw then 2 * i else 2 * ((i + n - 1) % n) + 1
theorem along_leave (n i : Nat) (fw : Bool) : alongM n i fw = leaveM n i (!fw) := by cases fw <;> rfl
/-- The reference's next dart, on a valid code. -/
def DM.turn (D : DM) (d : Nat) : Nat :=
  if 2 * D.n ≤ d then
    if d % 2 = 0 then alongM D.n (D.ax.getD (((d - 2 * D.n) / 2 + 1) % D.m) 0) (!downB D.ls (D.ax.getD (((d - 2 * D.n) / 2 + 1) % D.m) 0))
    else alongM D.n (D.ax.getD ((d - 2 * D.n) / 2) 0) (downB D.ls (D.ax.getD ((d - 2 * D.n) / 2) 0))
  else
    match D.ls[endM D.n d]? with
    | some l =>
      if l.kind = 2 then alongM D.n (D.ot.getD (endM D.n d) 0) (decide (d % 2 = 0) == (l.over == decide (l.sign = 1)))
      else if downB D.ls (endM D.n d) = decide (d % 2 = 0) then 2 * D.n + 2 * D.sp.getD (endM D.n d) 0
      else 2 * D.n + 2 * ((D.sp.getD (endM D.n d) 0 + D.m - 1) % D.m) + 1
    | none => 0
theorem above_down {ls : List Lt} {i : Nat} {l : Lt} (h : ls[i]? = some l) (hk : l.kind = 1) : (aboveL ls).getD i false = !downB ls i := by
  rw [List.getD_eq_getElem?_getD, aboveL_at (lt_len h), Option.getD_some, above_step h, if_pos hk]
  rfl
theorem above_next {ls : List Lt} {e : Nat} (h : e < ls.length) : (aboveL ls).getD e false = downB ls (e + 1) := by
  rw [List.getD_eq_getElem?_getD, aboveL_at h, Option.getD_some]
  rfl
theorem down_whole {D : DM} (g : D.good) : downB D.ls D.n = true := by
  unfold downB
  rw [← g.ok.ls, List.take_length, g.npass]
  have := g.even
  simp; omega
theorem down_zero (ls : List Lt) : downB ls 0 = true := by simp [downB, cntB]
/-- Whether one who comes to a pass turns left along the axis to the right. -/
theorem comes {D : DM} (g : D.good) {d : Nat} (hd : d < 2 * D.n) {l : Lt} (hl : D.ls[endM D.n d]? = some l) (hk : l.kind = 1) : (downB D.ls (endM D.n d) = decide (d % 2 = 0)) ↔ D.ab.getD (d / 2) false = true := by
  rw [g.ab]
  unfold endM at hl ⊢
  by_cases h1 : d % 2 = 1
  · rw [if_pos h1] at hl ⊢
    rw [above_down hl hk, decide_eq_false (show ¬ d % 2 = 0 by omega)]
    cases downB D.ls (d / 2) <;> simp
  · rw [if_neg h1] at hl ⊢
    have he : d / 2 < D.ls.length := by rw [g.ok.ls]; omega
    rw [above_next he, decide_eq_true (show d % 2 = 0 by omega)]
    by_cases h2 : d / 2 + 1 < D.n
    · rw [Nat.mod_eq_of_lt h2]
    · have e : d / 2 + 1 = D.n := by omega
      rw [e, Nat.mod_self, down_zero, down_whole g]
theorem leaveM_inj {n u v : Nat} {a b : Bool} (hu : u < n) (hv : v < n) (h : leaveM n u a = leaveM n v b) : u = v ∧ a = b := by
  unfold leaveM at h
  have hmod : ∀ x, x < n → (x + n - 1) % n = if x = 0 then n - 1 else x - 1 := fun x hx => by
    by_cases e : x = 0
    · subst e; rw [if_pos rfl, Nat.zero_add, Nat.mod_eq_of_lt (by omega)]
    · rw [if_neg e, show x + n - 1 = x - 1 + n by omega, Nat.add_mod_right, Nat.mod_eq_of_lt (by omega)]
  cases a <;> cases b
  · simp at h; exact ⟨by omega, rfl⟩
  · simp at h; omega
  · simp at h; omega
  · simp only [if_true, hmod u hu, hmod v hv] at h
    refine ⟨?_, rfl⟩
    split at h <;> split at h <;> omega
theorem DM.good.lt {D : DM} (g : D.good) {i : Nat} {l : Lt} (h : D.ls[i]? = some l) : i < D.n := by
  have := lt_len h
  rw [g.ok.ls] at this
  exact this
theorem DM.at_end {D : DM} (g : D.good) {d : Nat} (hd : d < 2 * D.n) : endM D.n d < D.n ∧ ∃ l, D.ls[endM D.n d]? = some l ∧ (l.kind = 1 ∨ l.kind = 2) := by
  have he := endM_lt g.ok.n0 hd
  refine ⟨he, ?_⟩
  have hl := List.getElem?_eq_getElem (l := D.ls) (i := endM D.n d) (by rw [g.ok.ls]; exact he)
  exact ⟨_, hl, g.kind _ _ hl⟩
theorem DM.left_cross {D : DM} {d : Nat} {l : Lt} (hl : D.ls[endM D.n d]? = some l) (hk : l.kind = 2) : D.left d = leaveM D.n (D.ot.getD (endM D.n d) 0) (decide (d % 2 = 1) == (l.over == decide (l.sign = 1))) := by
  unfold DM.left
  rw [hl]
  dsimp only
  rw [if_pos hk]
theorem DM.left_pass {D : DM} {d : Nat} {l : Lt} (hl : D.ls[endM D.n d]? = some l) (hk : l.kind = 1) : D.left d = leaveM D.n (D.ax.getD (nextM D.m (D.sp.getD (endM D.n d) 0) (D.ab.getD (d / 2) false)) 0) (D.ab.getD (D.ax.getD (nextM D.m (D.sp.getD (endM D.n d) 0) (D.ab.getD (d / 2) false)) 0) false != D.ab.getD (d / 2) false) := by
  unfold DM.left
  rw [hl]
  dsimp only
  rw [if_neg (by rw [hk]; decide)]
theorem DM.turn_cross {D : DM} {d : Nat} (hd : d < 2 * D.n) {l : Lt} (hl : D.ls[endM D.n d]? = some l) (hk : l.kind = 2) : D.turn d = D.left d := by
  rw [DM.left_cross hl hk]
  unfold DM.turn
  rw [if_neg (by omega), hl]
  dsimp only
  rw [if_pos hk, along_leave]
  congr 1
  rcases Nat.mod_two_eq_zero_or_one d with e | e <;> rw [e] <;> cases (l.over == decide (l.sign = 1)) <;> rfl
theorem DM.turn_pass {D : DM} (g : D.good) {d : Nat} (hd : d < 2 * D.n) {l : Lt} (hl : D.ls[endM D.n d]? = some l) (hk : l.kind = 1) :
    D.turn d = if D.ab.getD (d / 2) false = true then 2 * D.n + 2 * D.sp.getD (endM D.n d) 0 else 2 * D.n + 2 * ((D.sp.getD (endM D.n d) 0 + D.m - 1) % D.m) + 1 := by
  have hc := comes g hd hl hk
  unfold DM.turn
  rw [if_neg (by omega), hl]
  dsimp only
  rw [if_neg (by rw [hk]; decide)]
  by_cases e : D.ab.getD (d / 2) false = true
  · rw [if_pos e, if_pos (hc.2 e)]
  · rw [if_neg e, if_neg (fun c => e (hc.1 c))]
theorem DM.turn_axis {D : DM} (g : D.good) {d : Nat} (hd : d < 2 * D.n) {l : Lt} (hl : D.ls[endM D.n d]? = some l) (hk : l.kind = 1) :
    2 * D.n ≤ D.turn d ∧ D.turn d < 2 * D.n + 2 * D.m ∧ D.turn (D.turn d) = D.left d := by
  obtain ⟨hs, _⟩ := g.spa _ _ hl hk
  rw [DM.turn_pass g hd hl hk, DM.left_pass hl hk]
  obtain ⟨s, hse⟩ : ∃ s, D.sp.getD (endM D.n d) 0 = s := ⟨_, rfl⟩
  rw [hse] at hs ⊢
  have hab : ∀ q, q < D.m → D.ab.getD (D.ax.getD q 0) false = !downB D.ls (D.ax.getD q 0) := fun q hq => by
    obtain ⟨a, ha, hka, _⟩ := g.axp q hq
    rw [g.ab]
    exact above_down ha hka
  by_cases e : D.ab.getD (d / 2) false = true
  · rw [if_pos e, e]
    refine ⟨by omega, by omega, ?_⟩
    have hq : (s + 1) % D.m < D.m := Nat.mod_lt _ (by omega)
    have hn : nextM D.m s true = (s + 1) % D.m := by unfold nextM; rw [if_pos rfl, Nat.add_mod_right]
    rw [hn]
    rw [show DM.turn D (2 * D.n + 2 * s) = alongM D.n (D.ax.getD ((s + 1) % D.m) 0) (!downB D.ls (D.ax.getD ((s + 1) % D.m) 0)) by
      unfold DM.turn
      rw [if_pos (by omega), if_pos (by omega), show (2 * D.n + 2 * s - 2 * D.n) / 2 = s by omega]]
    rw [along_leave, hab _ hq]
    congr 1
    cases downB D.ls (D.ax.getD ((s + 1) % D.m) 0) <;> rfl
  · have e' : D.ab.getD (d / 2) false = false := by simpa using e
    rw [if_neg e, e']
    have hq : (s + D.m - 1) % D.m < D.m := Nat.mod_lt _ (by omega)
    have hn : nextM D.m s false = (s + D.m - 1) % D.m := by unfold nextM; rw [if_neg (by decide)]
    refine ⟨by omega, by omega, ?_⟩
    rw [hn]
    rw [show DM.turn D (2 * D.n + 2 * ((s + D.m - 1) % D.m) + 1) = alongM D.n (D.ax.getD ((s + D.m - 1) % D.m) 0) (downB D.ls (D.ax.getD ((s + D.m - 1) % D.m) 0)) by
      unfold DM.turn
      rw [if_pos (by omega), if_neg (by omega), show (2 * D.n + 2 * ((s + D.m - 1) % D.m) + 1 - 2 * D.n) / 2 = (s + D.m - 1) % D.m by omega]]
    rw [along_leave, hab _ hq]
    congr 1
    cases downB D.ls (D.ax.getD ((s + D.m - 1) % D.m) 0) <;> rfl
theorem endM_inj {n x y : Nat} (hx : x < 2 * n) (hy : y < 2 * n) (he : endM n x = endM n y) (hp : x % 2 = y % 2) : x = y := by
  unfold endM at he
  have hmod : ∀ e, e < n → (e + 1) % n = if e + 1 = n then 0 else e + 1 := fun e h => by
    by_cases c : e + 1 = n
    · rw [if_pos c, c, Nat.mod_self]
    · rw [if_neg c, Nat.mod_eq_of_lt (by omega)]
  by_cases h1 : x % 2 = 1
  · rw [if_pos h1, if_pos (by omega)] at he; omega
  · rw [if_neg h1, if_neg (by omega), hmod _ (by omega), hmod _ (by omega)] at he
    split at he <;> split at he <;> omega
theorem next_inj {m s t : Nat} {u : Bool} (hs : s < m) (ht : t < m) (h : nextM m s u = nextM m t u) : s = t := by
  unfold nextM at h
  have h1 : ∀ x, x < m → (x + 1 + m) % m = if x + 1 = m then 0 else x + 1 := fun x hx => by
    rw [Nat.add_mod_right]
    by_cases c : x + 1 = m
    · rw [if_pos c, c, Nat.mod_self]
    · rw [if_neg c, Nat.mod_eq_of_lt (by omega)]
  have h2 : ∀ x, x < m → (x + m - 1) % m = if x = 0 then m - 1 else x - 1 := fun x hx => by
    by_cases e : x = 0
    · subst e; rw [if_pos rfl, Nat.zero_add, Nat.mod_eq_of_lt (by omega)]
    · rw [if_neg e, show x + m - 1 = x - 1 + m by omega, Nat.add_mod_right, Nat.mod_eq_of_lt (by omega)]
  cases u
  · rw [if_neg (by decide), if_neg (by decide), h2 s hs, h2 t ht] at h
    split at h <;> split at h <;> omega
  · rw [if_pos rfl, if_pos rfl, h1 s hs, h1 t ht] at h
    split at h <;> split at h <;> omega
theorem DM.left_inj {D : DM} (g : D.good) {x y : Nat} (hx : x < 2 * D.n) (hy : y < 2 * D.n) (h : D.left x = D.left y) : x = y := by
  obtain ⟨ex, a, ha, ka⟩ := DM.at_end g hx
  obtain ⟨ey, b, hb, kb⟩ := DM.at_end g hy
  have cross_pass : ∀ {x y : Nat} {a b : Lt}, x < 2 * D.n → y < 2 * D.n → D.ls[endM D.n x]? = some a → D.ls[endM D.n y]? = some b → a.kind = 2 → b.kind = 1 → D.left x = D.left y → False := by
    intro x y a b hx hy ha hb k1 k2 h
    rw [DM.left_cross ha k1, DM.left_pass hb k2] at h
    obtain ⟨_, _, o, ho, ko, _⟩ := g.ot _ _ ha k1
    have hn := nextM_lt (u := D.ab.getD (y / 2) false) (g.spa _ _ hb k2).1
    obtain ⟨p, hp, kp, _⟩ := g.axp _ hn
    have e := (leaveM_inj (g.lt ho) (g.lt hp) h).1
    rw [← e, ho] at hp
    injection hp with hp
    rw [hp, kp] at ko
    cases ko
  rcases ka with ka | ka <;> rcases kb with kb | kb
  · have ca := comes g hx ha ka
    have cb := comes g hy hb kb
    rw [DM.left_pass ha ka, DM.left_pass hb kb] at h
    have hs1 := g.spa _ _ ha ka
    have hs2 := g.spa _ _ hb kb
    obtain ⟨p, hp, kp, sp⟩ := g.axp _ (nextM_lt (u := D.ab.getD (x / 2) false) hs1.1)
    obtain ⟨q, hq, kq, sq⟩ := g.axp _ (nextM_lt (u := D.ab.getD (y / 2) false) hs2.1)
    obtain ⟨e1, e2⟩ := leaveM_inj (g.lt hp) (g.lt hq) h
    have e3 : D.ab.getD (x / 2) false = D.ab.getD (y / 2) false := by
      rw [e1] at e2
      generalize D.ab.getD (D.ax.getD _ 0) false = z at e2
      revert e2
      cases z <;> cases D.ab.getD (x / 2) false <;> cases D.ab.getD (y / 2) false <;> simp
    rw [e1, e3] at sp
    rw [e3] at e1
    rw [sq] at sp
    have e4 := next_inj hs1.1 hs2.1 sp.symm
    have e5 : endM D.n x = endM D.n y := by rw [← hs1.2, ← hs2.2, e4]
    refine endM_inj hx hy e5 ?_
    rw [e5, e3] at ca
    have : (downB D.ls (endM D.n y) = decide (x % 2 = 0)) ↔ (downB D.ls (endM D.n y) = decide (y % 2 = 0)) := ca.trans cb.symm
    rcases Nat.mod_two_eq_zero_or_one x with c1 | c1 <;> rcases Nat.mod_two_eq_zero_or_one y with c2 | c2 <;> rw [c1, c2] at this ⊢
    · revert this; cases downB D.ls (endM D.n y) <;> simp
    · revert this; cases downB D.ls (endM D.n y) <;> simp
  · exact (cross_pass hy hx hb ha kb ka h.symm).elim
  · exact (cross_pass hx hy ha hb ka kb h).elim
  · rw [DM.left_cross ha ka, DM.left_cross hb kb] at h
    obtain ⟨_, i1, o1, l1, _⟩ := g.ot _ _ ha ka
    obtain ⟨_, i2, o2, l2, _⟩ := g.ot _ _ hb kb
    obtain ⟨e1, e2⟩ := leaveM_inj (g.lt l1) (g.lt l2) h
    have e5 : endM D.n x = endM D.n y := by rw [← i1, ← i2, e1]
    refine endM_inj hx hy e5 ?_
    rw [e5, hb] at ha
    injection ha with ha
    subst ha
    rcases Nat.mod_two_eq_zero_or_one x with c1 | c1 <;> rcases Nat.mod_two_eq_zero_or_one y with c2 | c2 <;> rw [c1, c2] at e2 ⊢
    · revert e2; cases (b.over == decide (b.sign = 1)) <;> simp
    · revert e2; cases (b.over == decide (b.sign = 1)) <;> simp
theorem end_onto {n v b : Nat} (hv : v < n) (hb : b < 2) : ∃ d, d < 2 * n ∧ endM n d = v ∧ d % 2 = b := by
  by_cases h : b = 1
  · exact ⟨2 * v + 1, by omega, by unfold endM; rw [if_pos (by omega)]; omega, by omega⟩
  · by_cases h0 : v = 0
    · refine ⟨2 * (n - 1), by omega, ?_, by omega⟩
      unfold endM
      rw [if_neg (by omega), show 2 * (n - 1) / 2 + 1 = n by omega, Nat.mod_self, h0]
    · refine ⟨2 * (v - 1), by omega, ?_, by omega⟩
      unfold endM
      rw [if_neg (by omega), show 2 * (v - 1) / 2 + 1 = v by omega, Nat.mod_eq_of_lt hv]
theorem turn_ext {D : DM} (g : D.good) : Ext D.left D.turn (2 * D.n) (2 * D.n + 2 * D.m) := by
  refine ⟨fun x hx => DM.left_lt g.ok hx, fun x y hx hy h => DM.left_inj g hx hy h, fun x hx ht => ?_, fun x hx ht => ?_, fun a h1 h2 => ?_, by omega⟩
  · obtain ⟨_, l, hl, k⟩ := DM.at_end g hx
    rcases k with k | k
    · have := DM.turn_axis g hx hl k; omega
    · exact DM.turn_cross hx hl k
  · obtain ⟨_, l, hl, k⟩ := DM.at_end g hx
    rcases k with k | k
    · exact (DM.turn_axis g hx hl k).2
    · have := DM.turn_cross hx hl k
      have := DM.left_lt g.ok hx
      omega
  · have pick : ∀ q : Nat, q < D.m → ∀ u : Bool, ∃ y l, y < 2 * D.n ∧ D.ls[endM D.n y]? = some l ∧ l.kind = 1 ∧ D.sp.getD (endM D.n y) 0 = q ∧ D.ab.getD (y / 2) false = u := by
      intro q hq u
      obtain ⟨l, hl, hk, hs⟩ := g.axp q hq
      have hv : D.ax.getD q 0 < D.n := g.lt hl
      obtain ⟨y, y1, y2, y3⟩ := end_onto (b := if downB D.ls (D.ax.getD q 0) = u then 0 else 1) hv (by split <;> omega)
      have hl' : D.ls[endM D.n y]? = some l := by rw [y2]; exact hl
      have hc := comes g y1 hl' hk
      refine ⟨y, l, y1, hl', hk, by rw [y2]; exact hs, ?_⟩
      rw [y2, y3] at hc
      revert hc
      cases D.ab.getD (y / 2) false <;> cases downB D.ls (D.ax.getD q 0) <;> cases u <;> simp
    by_cases e : a % 2 = 0
    · obtain ⟨y, l, y1, y2, y3, y4, y5⟩ := pick ((a - 2 * D.n) / 2) (by omega) true
      refine ⟨y, y1, ?_⟩
      rw [DM.turn_pass g y1 y2 y3, if_pos y5, y4]
      omega
    · have hm : 0 < D.m := by omega
      obtain ⟨y, l, y1, y2, y3, y4, y5⟩ := pick (((a - 2 * D.n) / 2 + 1) % D.m) (Nat.mod_lt _ hm) false
      refine ⟨y, y1, ?_⟩
      rw [DM.turn_pass g y1 y2 y3, if_neg (by rw [y5]; decide), y4]
      have hj : (a - 2 * D.n) / 2 < D.m := by omega
      have : (((a - 2 * D.n) / 2 + 1) % D.m + D.m - 1) % D.m = (a - 2 * D.n) / 2 := by
        by_cases c : (a - 2 * D.n) / 2 + 1 = D.m
        · rw [c, Nat.mod_self, Nat.zero_add, Nat.mod_eq_of_lt (by omega)]; omega
        · rw [Nat.mod_eq_of_lt (show (a - 2 * D.n) / 2 + 1 < D.m by omega), show (a - 2 * D.n) / 2 + 1 + D.m - 1 = (a - 2 * D.n) / 2 + D.m by omega, Nat.add_mod_right, Nat.mod_eq_of_lt hj]
      rw [this]
      omega
theorem walks_ref {D : DM} (g : D.good) : (refOut D.turn (2 * D.n + 2 * D.m) (2 * D.n + 2 * D.m)).2 = (D.outer (2 * D.n)).all.map fun p => (pieceOf (D.outer (2 * D.n)).ds p).flatMap (exD D.turn (2 * D.n)) := by
  have h1 : (D.m : Int) ≤ D.n := by
    have h2 := cntB_take_le isPass D.ls D.n
    rw [List.take_of_length_le (by rw [g.ok.ls]; omega), g.npass] at h2
    exact h2
  exact ref_walks (turn_ext g) (by omega)

end Go.Proofs.YtbbpockkafbfmaaDoor

/-
  The reference's list of the passes from left to right, made by insertion, is the program's.
-/
namespace Go.Proofs.YtbbpockkafbfmaaDoor
open Go.RowKit

/-- How many of a list come before a spot, from the head on. -/
def before (sp : List Nat) (s : Nat) : List Nat → Nat
  | [] => 0
  | e :: r => if sp.getD e 0 < s then before sp s r + 1 else 0
theorem before_le (sp : List Nat) (s : Nat) : ∀ l, before sp s l ≤ l.length
  | [] => Nat.le_refl _
  | e :: r => by
    have := before_le sp s r
    rw [before]
    split <;> simp <;> omega
/-- The passes among the first j letters, in their order. -/
def axM (ls : List Lt) (sp : List Nat) : Nat → List Nat
  | 0 => []
  | j + 1 => match ls[j]? with
    | some l => if l.kind = 1 then (axM ls sp j).take (before sp (sp.getD j 0) (axM ls sp j)) ++ [j] ++ (axM ls sp j).drop (before sp (sp.getD j 0) (axM ls sp j)) else axM ls sp j
    | none => axM ls sp j
/-- Sorted by their spots. -/
def Asc (sp : List Nat) (l : List Nat) : Prop := l.Pairwise fun a b => sp.getD a 0 < sp.getD b 0
theorem ins_asc {sp : List Nat} {j : Nat} : ∀ {l : List Nat}, Asc sp l → (∀ e, e ∈ l → sp.getD e 0 ≠ sp.getD j 0) → Asc sp (l.take (before sp (sp.getD j 0) l) ++ [j] ++ l.drop (before sp (sp.getD j 0) l))
  | [], _, _ => by simp [before, Asc]
  | e :: r, h, hn => by
    unfold Asc at h ⊢
    rw [List.pairwise_cons] at h
    by_cases c : sp.getD e 0 < sp.getD j 0
    · rw [before, if_pos c]
      have ih := ins_asc (sp := sp) (j := j) (l := r) h.2 (fun x hx => hn x (List.mem_cons_of_mem _ hx))
      unfold Asc at ih
      rw [List.take_succ_cons, List.drop_succ_cons, List.cons_append, List.cons_append, List.pairwise_cons]
      refine ⟨fun x hx => ?_, ih⟩
      rw [List.append_assoc, List.mem_append, List.mem_append] at hx
      rcases hx with hx | hx | hx
      · exact h.1 x (List.mem_of_mem_take hx)
      · rw [List.mem_singleton] at hx; subst hx; exact c
      · exact h.1 x (List.mem_of_mem_drop hx)
    · rw [before, if_neg c, List.take_zero, List.drop_zero, List.nil_append]
      have hlt : sp.getD j 0 < sp.getD e 0 := by
        have := hn e List.mem_cons_self
        omega
      refine List.pairwise_cons.2 ⟨fun x hx => ?_, List.pairwise_cons.2 h⟩
      rcases List.mem_cons.1 hx with e1 | hx
      · subst e1; exact hlt
      · have := h.1 x hx; omega
theorem axM_inv {D : DM} (g : D.good) : ∀ j, j ≤ D.n → Asc D.sp (axM D.ls D.sp j) ∧ (∀ e, e ∈ axM D.ls D.sp j ↔ e < j ∧ ∃ l, D.ls[e]? = some l ∧ l.kind = 1) ∧ ((axM D.ls D.sp j).length : Int) = cntB isPass (D.ls.take j)
  | 0, _ => ⟨List.Pairwise.nil, fun e => ⟨fun h => (by cases h), fun h => by omega⟩, by simp [axM, cntB]⟩
  | j + 1, hj => by
    obtain ⟨h1, h2, h3⟩ := axM_inv g j (by omega)
    obtain ⟨l, hl⟩ : ∃ l, D.ls[j]? = some l := ⟨_, List.getElem?_eq_getElem (by rw [g.ok.ls]; omega)⟩
    have hc := cntB_succ (p := isPass) hl
    rw [axM, hl]
    dsimp only
    by_cases hk : l.kind = 1
    · rw [if_pos hk]
      have hjs := g.spa j l hl hk
      refine ⟨ins_asc h1 (fun e he c => ?_), fun e => ?_, ?_⟩
      · obtain ⟨e1, a, ha, ka⟩ := (h2 e).1 he
        have := (g.spa e a ha ka).2
        rw [c, hjs.2] at this
        omega
      · rw [List.append_assoc, List.mem_append, List.mem_append, List.mem_singleton]
        have hm : e ∈ axM D.ls D.sp j ↔ e ∈ (axM D.ls D.sp j).take (before D.sp (D.sp.getD j 0) (axM D.ls D.sp j)) ∨ e ∈ (axM D.ls D.sp j).drop (before D.sp (D.sp.getD j 0) (axM D.ls D.sp j)) := by
          rw [← List.mem_append, List.take_append_drop]
        constructor
        · rintro (h | h | h)
          · have := (h2 e).1 (hm.2 (.inl h)); exact ⟨by omega, this.2⟩
          · subst h; exact ⟨by omega, l, hl, hk⟩
          · have := (h2 e).1 (hm.2 (.inr h)); exact ⟨by omega, this.2⟩
        · rintro ⟨h, r⟩
          by_cases e1 : e = j
          · exact .inr (.inl e1)
          · rcases hm.1 ((h2 e).2 ⟨by omega, r⟩) with q | q
            · exact .inl q
            · exact .inr (.inr q)
      · rw [hc, if_pos (by simp [isPass, hk]), ← h3]
        have := before_le D.sp (D.sp.getD j 0) (axM D.ls D.sp j)
        simp only [List.length_append, List.length_take, List.length_drop, List.length_cons, List.length_nil]
        omega
    · rw [if_neg hk]
      refine ⟨h1, fun e => ?_, by rw [hc, if_neg (by simp [isPass, hk]), h3]; simp⟩
      rw [h2 e]
      constructor
      · rintro ⟨h, r⟩; exact ⟨by omega, r⟩
      · rintro ⟨h, a, ha, ka⟩
        by_cases e1 : e = j
        · subst e1; rw [hl] at ha; injection ha with ha; subst ha; exact absurd ka hk
        · exact ⟨by omega, a, ha, ka⟩
theorem asc_ge {sp : List Nat} {l : List Nat} (h : Asc sp l) : ∀ (d p e : Nat), l[p + d]? = some e → ∃ x, l[p]? = some x ∧ sp.getD x 0 + d ≤ sp.getD e 0
  | 0, p, e, he => ⟨e, he, Nat.le_refl _⟩
  | d + 1, p, e, he => by
    have hlt : p + (d + 1) < l.length := by
      rcases Nat.lt_or_ge (p + (d + 1)) l.length with c | c
      · exact c
      · rw [List.getElem?_eq_none c] at he; cases he
    obtain ⟨y, hy, hle⟩ := asc_ge h d p (l[p + d]'(by omega)) (List.getElem?_eq_getElem (by omega))
    refine ⟨y, hy, ?_⟩
    have hpw := List.pairwise_iff_getElem.1 h (p + d) (p + (d + 1)) (by omega) hlt (by omega)
    rw [List.getElem?_eq_getElem hlt] at he
    injection he with he
    rw [he] at hpw
    omega
/-- The two lists are one. -/
theorem axM_eq {D : DM} (g : D.good) : axM D.ls D.sp D.n = D.ax := by
  obtain ⟨h1, h2, h3⟩ := axM_inv g D.n (Nat.le_refl _)
  rw [List.take_of_length_le (by rw [g.ok.ls]; omega), g.npass] at h3
  have hlen : (axM D.ls D.sp D.n).length = D.m := by omega
  apply List.ext_getElem?
  intro q
  by_cases hq : q < D.m
  · obtain ⟨e, he⟩ : ∃ e, (axM D.ls D.sp D.n)[q]? = some e := ⟨_, List.getElem?_eq_getElem (by omega)⟩
    obtain ⟨x0, hx0, hle0⟩ := asc_ge h1 q 0 e (by rw [Nat.zero_add]; exact he)
    obtain ⟨z, hz⟩ : ∃ z, (axM D.ls D.sp D.n)[D.m - 1]? = some z := ⟨_, List.getElem?_eq_getElem (by omega)⟩
    obtain ⟨y, hy, hle1⟩ := asc_ge h1 (D.m - 1 - q) q z (by rw [show q + (D.m - 1 - q) = D.m - 1 by omega]; exact hz)
    rw [he] at hy
    injection hy with hy
    subst hy
    obtain ⟨_, a, ha, ka⟩ := (h2 z).1 (List.mem_of_getElem? hz)
    have hzs := (g.spa z a ha ka).1
    obtain ⟨_, b, hb, kb⟩ := (h2 e).1 (List.mem_of_getElem? he)
    have hes := g.spa e b hb kb
    have hq2 : D.sp.getD e 0 = q := by omega
    rw [he, getD_some (l := D.ax) (z := 0) (by rw [g.ok.ax]; exact hq), ← hes.2, hq2]
  · rw [List.getElem?_eq_none (by omega), List.getElem?_eq_none (by rw [g.ok.ax]; omega)]

end Go.Proofs.YtbbpockkafbfmaaDoor
