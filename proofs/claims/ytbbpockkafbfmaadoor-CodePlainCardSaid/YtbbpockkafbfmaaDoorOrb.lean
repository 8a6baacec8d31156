/-
  The walks of two programs round the same faces: one goes from dart to dart of the string, the other one along the axis too.
-/
import Derived.Test.YtbbpockkafbfmaaDoorLeft
namespace Go.Proofs.YtbbpockkafbfmaaDoor
open Go.RowKit

/-- Darts that come one after the other, the last one first. -/
inductive Run (T : Nat → Nat) (d : Nat) : List Nat → Prop
  | one : Run T d [d]
  | more {x : Nat} {r : List Nat} : Run T d (x :: r) → Run T d (T x :: x :: r)
theorem Run.mem {T : Nat → Nat} {d x0 y : Nat} {r : List Nat} (h : Run T d (x0 :: r)) (hy : y ∈ x0 :: r) : y = d ∨ ∃ z, z ∈ r ∧ y = T z := by
  generalize hl : x0 :: r = l at h hy
  induction h generalizing x0 r with
  | one =>
    injection hl with h1 h2
    subst h1; subst h2
    left
    simpa using hy
  | @more x q _ ih =>
    injection hl with h1 h2
    subst h1; subst h2
    rcases List.mem_cons.1 hy with e | hy
    · exact .inr ⟨x, List.mem_cons_self, e⟩
    · rcases ih rfl hy with e | ⟨z, hz, e⟩
      · exact .inl e
      · exact .inr ⟨z, List.mem_cons_of_mem _ hz, e⟩
theorem Run.first {T : Nat → Nat} {d : Nat} {l : List Nat} (h : Run T d l) : d ∈ l := by
  induction h with
  | one => exact List.mem_cons_self
  | more _ ih => exact List.mem_cons_of_mem _ ih
/-- What has been marked is what was marked and a list. -/
def Marks (met0 : List Bool) (l : List Nat) (met : List Bool) : Prop := met.length = met0.length ∧ ∀ x, met.getD x false = (met0.getD x false || decide (x ∈ l))
theorem getD_set_bool {l : List Bool} {i q : Nat} {x : Bool} : (l.set i x).getD q false = if i = q ∧ q < l.length then x else l.getD q false := by
  rw [List.getD_eq_getElem?_getD, List.getElem?_set]
  by_cases e : i = q
  · subst e
    by_cases h : i < l.length
    · simp [h]
    · simp [h, List.getD_eq_getElem?_getD]
  · simp [e]
theorem Marks.set {met0 met : List Bool} {l : List Nat} (h : Marks met0 l met) {x : Nat} (hx : x < met0.length) : Marks met0 (x :: l) (met.set x true) := by
  refine ⟨by rw [List.length_set]; exact h.1, fun y => ?_⟩
  rw [getD_set_bool]
  by_cases e : x = y
  · subst e
    rw [if_pos ⟨rfl, by rw [h.1]; exact hx⟩]
    simp
  · rw [if_neg (fun c => e c.1), h.2 y]
    have : y ≠ x := fun c => e c.symm
    simp [this]
theorem Marks.nil (met : List Bool) : Marks met [] met := ⟨rfl, fun x => by simp⟩
theorem Marks.congr {met0 met : List Bool} {l k : List Nat} (h : Marks met0 l met) (e : ∀ x, x ∈ l ↔ x ∈ k) : Marks met0 k met := ⟨h.1, fun x => by rw [h.2 x]; simp only [e x]⟩
/-- A closed walk that has not been met, the last dart first. -/
structure Cyc (T : Nat → Nat) (N : Nat) (met0 : List Bool) (d : Nat) (l : List Nat) : Prop where
  run : Run T d l
  nodup : l.Nodup
  new : ∀ x, x ∈ l → x < N ∧ met0.getD x false = false
/-- What leads to a dart that has been met has been met. -/
def Closed (T : Nat → Nat) (N : Nat) (met : List Bool) : Prop := ∀ y, y < N → met.getD (T y) false = true → met.getD y false = true
theorem nodup_bound {l : List Nat} {N : Nat} (h : l.Nodup) (hb : ∀ x, x ∈ l → x < N) : l.length ≤ N := by
  induction N generalizing l with
  | zero =>
    cases l with
    | nil => simp
    | cons a r => exact absurd (hb a List.mem_cons_self) (by omega)
  | succ N ih =>
    have h1 : (l.erase N).Nodup := h.erase N
    have h2 := ih h1 (fun x hx => by
      have h3 := (List.Nodup.mem_erase_iff h).1 hx
      have := hb x h3.2
      omega)
    have h3 := List.length_erase (a := N) (l := l)
    split at h3 <;> omega
theorem inner_closed {D : DM} {met0 : List Bool} {ds0 : List Nat} {d : Nat} (hlt : ∀ x, x < 2 * D.n → D.left x < 2 * D.n) (hinj : ∀ x y, x < 2 * D.n → y < 2 * D.n → D.left x = D.left y → x = y)
    (hm0 : met0.length = 2 * D.n) (hc : Closed D.left (2 * D.n) met0) :
    ∀ (fuel x : Nat) (r : List Nat) (met : List Bool), Cyc D.left (2 * D.n) met0 d (x :: r) → Marks met0 (x :: r) met → 2 * D.n < fuel + (x :: r).length →
      ∃ y q met', Cyc D.left (2 * D.n) met0 d (y :: q) ∧ D.left y = d ∧ Marks met0 (y :: q) met' ∧ D.inner d ds0.length fuel (D.left x) met (ds0 ++ (x :: r).reverse) = (true, met', ds0 ++ (y :: q).reverse)
  | 0, x, r, met, h, _, hf => by
    have := nodup_bound h.nodup (fun z hz => (h.new z hz).1)
    omega
  | fuel + 1, x, r, met, h, hm, hf => by
    have hx := h.new x List.mem_cons_self
    rw [DM.inner]
    by_cases e : D.left x = d
    · rw [if_neg (by
        intro c
        rcases c with c | c
        · simp at c
        · exact c e)]
      exact ⟨x, r, met, h, e, hm, rfl⟩
    · rw [if_pos (.inr e)]
      have hnot : D.left x ∉ x :: r := by
        intro hin
        rcases h.run.mem hin with c | ⟨z, hz, c⟩
        · exact e c
        · have hzx := hinj x z hx.1 (h.new z (List.mem_cons_of_mem _ hz)).1 c
          subst hzx
          exact (List.nodup_cons.1 h.nodup).1 hz
      have hnew : met0.getD (D.left x) false = false := by
        cases hb : met0.getD (D.left x) false with
        | false => rfl
        | true =>
          have := hc x hx.1 hb
          rw [hx.2] at this
          cases this
      rw [hm.2, hnew]
      rw [if_neg (by simp [hnot])]
      have h' : Cyc D.left (2 * D.n) met0 d (D.left x :: x :: r) := ⟨.more h.run, List.nodup_cons.2 ⟨hnot, h.nodup⟩, fun z hz => by
        rcases List.mem_cons.1 hz with e | hz
        · subst e; exact ⟨hlt x hx.1, hnew⟩
        · exact h.new z hz⟩
      have ih := inner_closed (ds0 := ds0) hlt hinj hm0 hc fuel (D.left x) (x :: r) (met.set (D.left x) true) h' (hm.set (by rw [hm0]; exact hlt x hx.1)) (by simp only [List.length_cons] at hf ⊢; omega)
      rw [List.append_assoc]
      have e2 : (x :: r).reverse ++ [D.left x] = (D.left x :: x :: r).reverse := by simp
      rw [e2]
      exact ih
/-- The reference's walk: on until a dart that has been seen. -/
def refIn (T : Nat → Nat) : Nat → Nat → List Bool → List Nat → List Bool × List Nat
  | 0, _, seen, walk => (seen, walk)
  | fuel + 1, x, seen, walk => if seen.getD x false then (seen, walk) else refIn T fuel (T x) (seen.set x true) (walk ++ [x])
def refOut (T : Nat → Nat) (K : Nat) : Nat → List Bool × List (List Nat)
  | 0 => (List.replicate K false, [])
  | d + 1 => if (refOut T K d).1.getD d false then refOut T K d else
      ((refIn T (2 * K + 2) d (refOut T K d).1 []).1, (refOut T K d).2 ++ [(refIn T (2 * K + 2) d (refOut T K d).1 []).2])
/-- A dart of the string with the dart of the axis behind it. -/
def exD (T : Nat → Nat) (N x : Nat) : List Nat := if T x < N then [x] else [x, T x]
structure Ext (left T : Nat → Nat) (N K : Nat) : Prop where
  lt : ∀ x, x < N → left x < N
  inj : ∀ x y, x < N → y < N → left x = left y → x = y
  str : ∀ x, x < N → T x < N → T x = left x
  axis : ∀ x, x < N → N ≤ T x → T x < K ∧ T (T x) = left x
  onto : ∀ a, N ≤ a → a < K → ∃ y, y < N ∧ T y = a
  le : N ≤ K
structure Seen (T : Nat → Nat) (N K : Nat) (met seen : List Bool) : Prop where
  len : seen.length = K
  str : ∀ x, x < N → seen.getD x false = met.getD x false
  axis : ∀ y, y < N → N ≤ T y → seen.getD (T y) false = met.getD y false
section
variable {left T : Nat → Nat} {N K : Nat}
theorem exD_mem {x a : Nat} (h : a ∈ exD T N x) : a = x ∨ (N ≤ T x ∧ a = T x) := by
  unfold exD at h
  split at h
  · left; simpa using h
  · rcases List.mem_cons.1 h with e | h
    · exact .inl e
    · exact .inr ⟨by omega, by simpa using h⟩
theorem exD_self (x : Nat) : x ∈ exD T N x := by unfold exD; split <;> simp
theorem ex_string {s : List Nat} {y : Nat} (hy : y < N) : y ∈ s.flatMap (exD T N) ↔ y ∈ s := by
  rw [List.mem_flatMap]
  constructor
  · rintro ⟨z, hz, h⟩
    rcases exD_mem h with e | ⟨h1, e⟩
    · subst e; exact hz
    · omega
  · intro h
    exact ⟨y, h, exD_self y⟩
theorem ex_axis (hx : Ext left T N K) {s : List Nat} (hs : ∀ x, x ∈ s → x < N) {y : Nat} (hy : y < N) (ha : N ≤ T y) : T y ∈ s.flatMap (exD T N) ↔ y ∈ s := by
  rw [List.mem_flatMap]
  constructor
  · rintro ⟨z, hz, h⟩
    rcases exD_mem h with e | ⟨h1, e⟩
    · have := hs z hz; omega
    · have e1 := (hx.axis y hy ha).2
      have e2 := (hx.axis z (hs z hz) h1).2
      rw [e] at e1
      have := hx.inj y z hy (hs z hz) (e1.symm.trans e2)
      subst this
      exact hz
  · intro h
    exact ⟨y, h, by unfold exD; rw [if_neg (by omega)]; simp⟩
/-- The darts come one after the other, the first one first; behind the last one comes d. -/
def Line (left : Nat → Nat) (d : Nat) : List Nat → Prop
  | [] => True
  | x :: s => left x = s.head?.getD d ∧ Line left d s
theorem refIn_line (hx : Ext left T N K) {met0 seen0 : List Bool} {d : Nat} (hr : Seen T N K met0 seen0) :
    ∀ (s2 s1 : List Nat) (fuel : Nat) (seen : List Bool), d ∈ s1 ++ s2 → (s1 ++ s2).Nodup → (∀ x, x ∈ s1 ++ s2 → x < N ∧ met0.getD x false = false) → Line left d s2 → Marks seen0 (s1.flatMap (exD T N)) seen → 2 * s2.length < fuel →
      ∃ seen', refIn T fuel (s2.head?.getD d) seen (s1.flatMap (exD T N)) = (seen', (s1 ++ s2).flatMap (exD T N)) ∧ Marks seen0 ((s1 ++ s2).flatMap (exD T N)) seen'
  | [], s1, fuel + 1, seen, hd, _, hb, _, hm, _ => by
    rw [List.append_nil] at hd hb ⊢
    refine ⟨seen, ?_, hm⟩
    rw [refIn]
    rw [if_pos (by
      show seen.getD d false = true
      rw [hm.2, (show d ∈ s1.flatMap (exD T N) from (ex_string (hb d hd).1).2 hd |> fun h => h) |> fun h => decide_eq_true h]
      simp)]
  | x :: s2, s1, fuel + 1, seen, hd, hn, hb, hl, hm, hf => by
    have hs1 : ∀ y, y ∈ s1 → y < N := fun y h => (hb y (List.mem_append_left _ h)).1
    have hxb := hb x (by simp)
    have hx1 : x ∉ s1 := by
      intro c
      have h1 := (List.nodup_append.1 hn).2.2
      exact h1 x c x List.mem_cons_self rfl
    have hnx : seen.getD x false = false := by
      rw [hm.2, hr.str x hxb.1, hxb.2, decide_eq_false (fun c => hx1 ((ex_string hxb.1).1 c))]
      rfl
    have hsx : x < seen0.length := by rw [hr.len]; have := hx.le; omega
    have e0 : (s1 ++ x :: s2) = (s1 ++ [x]) ++ s2 := by simp
    rw [refIn, List.head?_cons, Option.getD_some, hnx]
    rw [if_neg (by simp)]
    by_cases ht : T x < N
    · have e1 : (s1 ++ [x]).flatMap (exD T N) = s1.flatMap (exD T N) ++ [x] := by simp [exD, ht]
      have hm' : Marks seen0 ((s1 ++ [x]).flatMap (exD T N)) (seen.set x true) := (hm.set hsx).congr (fun y => by rw [e1]; simp [or_comm])
      obtain ⟨seen', h1, h2⟩ := refIn_line hx hr s2 (s1 ++ [x]) fuel (seen.set x true) (by rw [← e0]; exact hd) (by rw [← e0]; exact hn) (by rw [← e0]; exact hb) hl.2 hm' (by simp only [List.length_cons] at hf; omega)
      refine ⟨seen', ?_, by rw [e0]; exact h2⟩
      rw [e0, ← h1, e1, hx.str x hxb.1 ht, hl.1]
    · obtain ⟨ha1, ha2⟩ := hx.axis x hxb.1 (by omega)
      have hna : seen.getD (T x) false = false := by
        rw [hm.2, hr.axis x hxb.1 (by omega), hxb.2, decide_eq_false (fun c => hx1 ((ex_axis hx hs1 hxb.1 (by omega)).1 c))]
        rfl
      have e1 : (s1 ++ [x]).flatMap (exD T N) = s1.flatMap (exD T N) ++ [x] ++ [T x] := by simp [exD, ht]
      have hm' : Marks seen0 ((s1 ++ [x]).flatMap (exD T N)) ((seen.set x true).set (T x) true) := ((hm.set hsx).set (by rw [hr.len]; exact ha1)).congr (fun y => by
        rw [e1]; simp only [List.mem_append, List.mem_cons, List.not_mem_nil, or_false]
        constructor
        · rintro (h | h | h)
          · exact .inr h
          · exact .inl (.inr h)
          · exact .inl (.inl h)
        · rintro ((h | h) | h)
          · exact .inr (.inr h)
          · exact .inr (.inl h)
          · exact .inl h)
      cases fuel with
      | zero => simp only [List.length_cons] at hf; omega
      | succ fuel =>
        obtain ⟨seen', h1, h2⟩ := refIn_line hx hr s2 (s1 ++ [x]) fuel ((seen.set x true).set (T x) true) (by rw [← e0]; exact hd) (by rw [← e0]; exact hn) (by rw [← e0]; exact hb) hl.2 hm' (by simp only [List.length_cons] at hf; omega)
        refine ⟨seen', ?_, by rw [e0]; exact h2⟩
        rw [refIn]
        rw [if_neg (by
          rw [getD_set_bool, if_neg (by intro c; omega), hna]; simp)]
        rw [e0, ← h1, e1, ha2, hl.1]
theorem Run.line {d : Nat} {l : List Nat} (h : Run left d l) : ∀ s, Line left d s → (∀ x r, l = x :: r → left x = s.head?.getD d) → Line left d (l.reverse ++ s) ∧ (l.reverse ++ s).head?.getD d = d := by
  induction h with
  | one =>
    intro s hs h
    exact ⟨⟨h d [] rfl, hs⟩, rfl⟩
  | @more x r _ ih =>
    intro s hs h
    have := ih (left x :: s) ⟨h _ _ rfl, hs⟩ (fun y q e => by injection e with e1 e2; subst e1; rfl)
    rw [List.reverse_cons, List.append_assoc]
    exact this
theorem Cyc.marks (hx : Ext left T N K) {met0 met seen0 seen : List Bool} {d y : Nat} {q : List Nat} (h : Cyc left N met0 d (y :: q)) (hm : Marks met0 (y :: q) met) (hr : Seen T N K met0 seen0)
    (hs : Marks seen0 (((y :: q).reverse).flatMap (exD T N)) seen) : Seen T N K met seen := by
  have hb : ∀ x, x ∈ (y :: q).reverse → x < N := fun x hxm => (h.new x (List.mem_reverse.1 hxm)).1
  refine ⟨hs.1.trans hr.len, fun x hxN => ?_, fun x hxN ha => ?_⟩
  · rw [hs.2, hm.2, hr.str x hxN]
    congr 1
    rw [decide_eq_decide, ex_string hxN, List.mem_reverse]
  · rw [hs.2, hm.2, hr.axis x hxN ha]
    congr 1
    rw [decide_eq_decide, ex_axis hx hb hxN ha, List.mem_reverse]
theorem Cyc.closed (hx : Ext left T N K) {met0 met : List Bool} {d y : Nat} {q : List Nat} (h : Cyc left N met0 d (y :: q)) (hy : left y = d) (hm : Marks met0 (y :: q) met) (hc : Closed left N met0) : Closed left N met := by
  intro x hxN hl
  rw [hm.2] at hl ⊢
  rcases Bool.or_eq_true _ _ |>.mp hl with c | c
  · rw [hc x hxN c]; rfl
  · have c := of_decide_eq_true c
    have hin : x ∈ y :: q := by
      rcases h.run.mem c with e | ⟨z, hz, e⟩
      · have := hx.inj x y hxN (h.new y List.mem_cons_self).1 (e.trans hy.symm)
        rw [this]; exact List.mem_cons_self
      · have hz' := List.mem_cons_of_mem y hz
        have := hx.inj x z hxN (h.new z hz').1 e
        rw [this]; exact hz'
    rw [decide_eq_true hin]; simp
end
/-- The piece of the darts that makes a face. -/
def pieceOf (ds : List Nat) (p : Nat × Nat) : List Nat := (ds.drop p.1).take (p.2 - p.1)
theorem pieceOf_append {ds e : List Nat} {p : Nat × Nat} (h : p.2 ≤ ds.length) : pieceOf (ds ++ e) p = pieceOf ds p := by
  unfold pieceOf
  by_cases h1 : p.1 ≤ ds.length
  · rw [List.drop_append_of_le_length h1, List.take_append_of_le_length (by rw [List.length_drop]; omega)]
  · have : p.2 - p.1 = 0 := by omega
    rw [this]; simp
structure OutRel (D : DM) (T : Nat → Nat) (K d : Nat) : Prop where
  seen : Seen T (2 * D.n) K (D.outer d).met (refOut T K d).1
  mlen : (D.outer d).met.length = 2 * D.n
  closed : Closed D.left (2 * D.n) (D.outer d).met
  met : ∀ x, x < d → (D.outer d).met.getD x false = true
  ends : ∀ p, p ∈ (D.outer d).all → p.2 ≤ (D.outer d).ds.length
  walks : (refOut T K d).2 = (D.outer d).all.map fun p => (pieceOf (D.outer d).ds p).flatMap (exD T (2 * D.n))
theorem out_rel {D : DM} {T : Nat → Nat} {K : Nat} (hx : Ext D.left T (2 * D.n) K) (hK : K ≤ 4 * D.n) : ∀ d, d ≤ 2 * D.n → OutRel D T K d
  | 0, _ => by
    refine ⟨⟨by simp [refOut], fun x _ => ?_, fun y _ _ => ?_⟩, by simp [DM.outer], fun y _ h => ?_, fun x h => by omega, fun p hp => by simp [DM.outer] at hp, by simp [refOut, DM.outer]⟩
    · simp only [refOut, DM.outer, List.getD_eq_getElem?_getD, List.getElem?_replicate]; split <;> simp
    · simp only [refOut, DM.outer, List.getD_eq_getElem?_getD, List.getElem?_replicate]; split <;> simp
    · simp only [DM.outer, List.getD_eq_getElem?_getD, List.getElem?_replicate] at h; split at h <;> simp at h
  | d + 1, hd => by
    have I := out_rel hx hK d (by omega)
    have hs := I.seen.str d (by omega)
    cases hb : (D.outer d).met.getD d false with
    | true =>
      have h1 : refOut T K (d + 1) = refOut T K d := by
        rw [refOut, if_pos (by rw [hs, hb])]
      have h2 : D.inner d (D.outer d).ds.length (2 * D.n + 1) d (D.outer d).met (D.outer d).ds = (false, (D.outer d).met, (D.outer d).ds) := by
        rw [DM.inner, if_pos (.inl rfl), if_pos hb]
      have h3 : D.outer (d + 1) = D.outer d := by
        rw [DM.outer]
        rw [h2]
        simp
      refine ⟨by rw [h1, h3]; exact I.seen, by rw [h3]; exact I.mlen, by rw [h3]; exact I.closed, fun x hxd => ?_, by rw [h3]; exact I.ends, by rw [h1, h3]; exact I.walks⟩
      rw [h3]
      by_cases e : x = d
      · rw [e]; exact hb
      · exact I.met x (by omega)
    | false =>
      have hcyc : Cyc D.left (2 * D.n) (D.outer d).met d [d] := ⟨.one, by simp, fun x hxm => by
        obtain rfl : x = d := by simpa using hxm
        exact ⟨by omega, hb⟩⟩
      obtain ⟨y, q, met', c1, c2, c3, c4⟩ := inner_closed (ds0 := (D.outer d).ds) hx.lt hx.inj I.mlen I.closed (2 * D.n) d [] ((D.outer d).met.set d true) hcyc ((Marks.nil _).set (by rw [I.mlen]; omega)) (by simp)
      have h2 : D.inner d (D.outer d).ds.length (2 * D.n + 1) d (D.outer d).met (D.outer d).ds = (true, met', (D.outer d).ds ++ (y :: q).reverse) := by
        rw [DM.inner, if_pos (.inl rfl), if_neg (by rw [hb]; simp)]
        exact c4
      have h3 : D.outer (d + 1) = ⟨met', (D.outer d).ds ++ (y :: q).reverse, (D.outer d).all ++ [((D.outer d).ds.length, ((D.outer d).ds ++ (y :: q).reverse).length)]⟩ := by
        rw [DM.outer]
        rw [h2]
        simp
      obtain ⟨l1, l2⟩ := c1.run.line [] trivial (fun x r e => by injection e with e1 e2; subst e1; rw [c2]; rfl)
      rw [List.append_nil] at l1 l2
      have hq := nodup_bound c1.nodup (fun z hz => (c1.new z hz).1)
      obtain ⟨seen', r1, r2⟩ := refIn_line hx I.seen (y :: q).reverse [] (2 * K + 2) (refOut T K d).1 (by rw [List.nil_append, List.mem_reverse]; exact c1.run.first) (by rw [List.nil_append]; exact List.pairwise_reverse.2 (c1.nodup.imp fun h => h.symm))
        (fun x hxm => c1.new x (by rw [List.nil_append] at hxm; exact List.mem_reverse.1 hxm)) l1 (Marks.nil _) (by rw [List.length_reverse]; have := hx.le; omega)
      rw [l2, List.nil_append, List.flatMap_nil] at r1
      rw [List.nil_append] at r2
      have h1 : refOut T K (d + 1) = (seen', (refOut T K d).2 ++ [(y :: q).reverse.flatMap (exD T (2 * D.n))]) := by
        rw [refOut, if_neg (by rw [hs, hb]; simp), r1]
      refine ⟨?_, ?_, ?_, fun x hxd => ?_, fun p hp => ?_, ?_⟩
      · rw [h1, h3]; exact c1.marks hx c3 I.seen r2
      · rw [h3]; exact c3.1.trans I.mlen
      · rw [h3]; exact c1.closed hx c2 c3 I.closed
      · rw [h3]
        show met'.getD x false = true
        rw [c3.2]
        by_cases e : x = d
        · rw [e, decide_eq_true c1.run.first]; simp
        · rw [I.met x (by omega)]; rfl
      · rw [h3] at hp ⊢
        dsimp only at hp ⊢
        rw [List.length_append]
        rcases List.mem_append.1 hp with hp | hp
        · have := I.ends p hp; omega
        · rw [List.mem_singleton] at hp; subst hp; dsimp only; rw [List.length_append]; omega
      · rw [h1, h3]
        dsimp only
        rw [List.map_append, I.walks]
        congr 1
        · apply List.map_congr_left
          intro p hp
          rw [pieceOf_append (I.ends p hp)]
        · rw [List.map_singleton]
          congr 2
          unfold pieceOf
          dsimp only
          rw [List.drop_left, List.length_append]
          rw [List.take_of_length_le (by omega)]
/-- The reference's walks are the faces' darts, with the darts of the axis between them. -/
theorem ref_walks {D : DM} {T : Nat → Nat} {K : Nat} (hx : Ext D.left T (2 * D.n) K) (hK : K ≤ 4 * D.n) : (refOut T K K).2 = (D.outer (2 * D.n)).all.map fun p => (pieceOf (D.outer (2 * D.n)).ds p).flatMap (exD T (2 * D.n)) := by
  have I := out_rel hx hK (2 * D.n) (Nat.le_refl _)
  have hall : ∀ a, a < K → (refOut T K (2 * D.n)).1.getD a false = true := by
    intro a ha
    by_cases h : a < 2 * D.n
    · rw [I.seen.str a h]; exact I.met a h
    · obtain ⟨y, hy, e⟩ := hx.onto a (by omega) ha
      rw [← e, I.seen.axis y hy (by omega)]
      exact I.met y hy
  have hst : ∀ k, 2 * D.n + k ≤ K → refOut T K (2 * D.n + k) = refOut T K (2 * D.n) := by
    intro k
    induction k with
    | zero => intro _; rfl
    | succ k ih =>
      intro hk
      have := ih (by omega)
      rw [← Nat.add_assoc, refOut, this, if_pos (hall _ (by omega))]
  have := hst (K - 2 * D.n) (by have := hx.le; omega)
  rw [show 2 * D.n + (K - 2 * D.n) = K by have := hx.le; omega] at this
  rw [this]
  exact I.walks

end Go.Proofs.YtbbpockkafbfmaaDoor
