/-
  The faces' darts: every dart on one face, each face on one side (pure).
-/
import Derived.Test.YtbbpockkafbfmaaDoorSide
import Derived.Test.YtbbpockkafbfmaaDoorFaces
namespace Go.Proofs.YtbbpockkafbfmaaDoor
open Go.RowKit

/-- The pieces behind the first d darts. -/
structure FcsD (D : DM) (d : Nat) (P : List (List Nat)) : Prop where
  map : (D.outer d).all.map (pieceOf (D.outer d).ds) = P
  ends : ∀ p, p ∈ (D.outer d).all → p.2 ≤ (D.outer d).ds.length
  flat : P.flatten = (D.outer d).ds
  nodup : (D.outer d).ds.Nodup
  mem : ∀ x, x ∈ (D.outer d).ds ↔ x < 2 * D.n ∧ (D.outer d).met.getD x false = true
  pc : ∀ p, p ∈ P → ∃ h r, p = h :: r ∧ h < d ∧ (∀ x, x ∈ p → h ≤ x) ∧ ∀ x, x ∈ p → Orb D.left (2 * D.n) h x
  asc : P.Pairwise fun a b => a.headD 0 < b.headD 0
  mlen : (D.outer d).met.length = 2 * D.n
  closed : Closed D.left (2 * D.n) (D.outer d).met
  met : ∀ x, x < d → (D.outer d).met.getD x false = true
theorem fcs {D : DM} (hlt : ∀ x, x < 2 * D.n → D.left x < 2 * D.n) (hinj : ∀ x y, x < 2 * D.n → y < 2 * D.n → D.left x = D.left y → x = y) : ∀ d, d ≤ 2 * D.n → ∃ P, FcsD D d P
  | 0, _ => by
    have e : ∀ y, (D.outer 0).met.getD y false = false := fun y => by
      simp only [DM.outer, List.getD_eq_getElem?_getD, List.getElem?_replicate]; split <;> rfl
    refine ⟨[], by simp [DM.outer], fun p hp => (by simp [DM.outer] at hp), by simp [DM.outer], by simp [DM.outer], fun x => ?_, fun p hp => (by cases hp), List.Pairwise.nil, by simp [DM.outer], fun y _ h => ?_, fun x h => by omega⟩
    · rw [e]; simp [DM.outer]
    · rw [e] at h; cases h
  | d + 1, hd => by
    obtain ⟨P, I⟩ := fcs hlt hinj d (by omega)
    cases hb : (D.outer d).met.getD d false with
    | true =>
      have h2 : D.inner d (D.outer d).ds.length (2 * D.n + 1) d (D.outer d).met (D.outer d).ds = (false, (D.outer d).met, (D.outer d).ds) := by
        rw [DM.inner, if_pos (.inl rfl), if_pos hb]
      have h3 : D.outer (d + 1) = D.outer d := by
        rw [DM.outer]
        rw [h2]
        simp
      refine ⟨P, by rw [h3]; exact I.map, by rw [h3]; exact I.ends, by rw [h3]; exact I.flat, by rw [h3]; exact I.nodup, by rw [h3]; exact I.mem, fun p hp => ?_, I.asc, by rw [h3]; exact I.mlen, by rw [h3]; exact I.closed, fun x hx => ?_⟩
      · obtain ⟨h, r, e1, e2, e3⟩ := I.pc p hp
        exact ⟨h, r, e1, by omega, e3⟩
      · rw [h3]
        by_cases e : x = d
        · rw [e]; exact hb
        · exact I.met x (by omega)
    | false =>
      have hcyc : Cyc D.left (2 * D.n) (D.outer d).met d [d] := ⟨.one, by simp, fun x hxm => by
        obtain rfl : x = d := by simpa using hxm
        exact ⟨by omega, hb⟩⟩
      obtain ⟨y, q, met', c1, c2, c3, c4⟩ := inner_closed (ds0 := (D.outer d).ds) hlt hinj I.mlen I.closed (2 * D.n) d [] ((D.outer d).met.set d true) hcyc ((Marks.nil _).set (by rw [I.mlen]; omega)) (by simp)
      have h2 : D.inner d (D.outer d).ds.length (2 * D.n + 1) d (D.outer d).met (D.outer d).ds = (true, met', (D.outer d).ds ++ (y :: q).reverse) := by
        rw [DM.inner, if_pos (.inl rfl), if_neg (by rw [hb]; simp)]
        exact c4
      have h3 : D.outer (d + 1) = ⟨met', (D.outer d).ds ++ (y :: q).reverse, (D.outer d).all ++ [((D.outer d).ds.length, ((D.outer d).ds ++ (y :: q).reverse).length)]⟩ := by
        rw [DM.outer]
        rw [h2]
        simp
      have hlast : ∃ r, (y :: q).reverse = d :: r := by
        have : ∀ {l : List Nat}, Run D.left d l → ∃ r, l.reverse = d :: r := by
          intro l h
          induction h with
          | one => exact ⟨[], rfl⟩
          | @more x r _ ih =>
            obtain ⟨s, hs⟩ := ih
            exact ⟨s ++ [D.left x], by rw [List.reverse_cons, hs]; rfl⟩
        exact this c1.run
      obtain ⟨r, hr⟩ := hlast
      have hnew : ∀ x, x ∈ (y :: q).reverse → x < 2 * D.n ∧ (D.outer d).met.getD x false = false := fun x hx => c1.new x (List.mem_reverse.1 hx)
      have hge : ∀ x, x ∈ (y :: q).reverse → d ≤ x := fun x hx => by
        rcases Nat.lt_or_ge x d with c | c
        · have := I.met x c
          rw [(hnew x hx).2] at this; cases this
        · exact c
      refine ⟨P ++ [(y :: q).reverse], ?_, fun p hp => ?_, ?_, ?_, fun x => ?_, fun p hp => ?_, ?_, ?_, ?_, fun x hx => ?_⟩
      · rw [h3]
        dsimp only
        rw [List.map_append, List.map_singleton, ← I.map]
        congr 1
        · exact List.map_congr_left (fun p hp => pieceOf_append (I.ends p hp))
        · congr 1
          unfold pieceOf
          dsimp only
          rw [List.drop_left, List.length_append, List.take_of_length_le (by omega)]
      · rw [h3] at hp ⊢
        dsimp only at hp ⊢
        rw [List.length_append]
        rcases List.mem_append.1 hp with hp | hp
        · have := I.ends p hp; omega
        · rw [List.mem_singleton] at hp; subst hp; dsimp only; rw [List.length_append]; omega
      · rw [h3, List.flatten_append, I.flat]; simp
      · rw [h3]
        dsimp only
        rw [List.nodup_append]
        refine ⟨I.nodup, List.pairwise_reverse.2 (c1.nodup.imp fun h => h.symm), fun a ha b hb2 e => ?_⟩
        subst e
        have h1 := ((I.mem a).1 ha).2
        rw [(hnew a hb2).2] at h1; cases h1
      · rw [h3]
        dsimp only
        rw [List.mem_append, I.mem, c3.2, List.mem_reverse]
        constructor
        · rintro (⟨h1, h4⟩ | h1)
          · exact ⟨h1, by rw [h4]; rfl⟩
          · exact ⟨(c1.new x h1).1, by rw [decide_eq_true h1]; simp⟩
        · rintro ⟨h1, h4⟩
          rw [Bool.or_eq_true, decide_eq_true_iff] at h4
          rcases h4 with h4 | h4
          · exact .inl ⟨h1, h4⟩
          · exact .inr h4
      · rcases List.mem_append.1 hp with hp | hp
        · obtain ⟨h, r, e1, e2, e3⟩ := I.pc p hp
          exact ⟨h, r, e1, by omega, e3⟩
        · rw [List.mem_singleton] at hp
          subst hp
          exact ⟨d, r, hr, by omega, hge, fun x hx => c1.run.orb (fun z hz => (c1.new z hz).1) x (List.mem_reverse.1 hx)⟩
      · rw [List.pairwise_append]
        refine ⟨I.asc, List.pairwise_singleton _ _, fun a ha b hb2 => ?_⟩
        rw [List.mem_singleton] at hb2
        subst hb2
        obtain ⟨h, r2, e1, e2, _⟩ := I.pc a ha
        rw [hr, e1]
        exact e2
      · rw [h3]; exact c3.1.trans I.mlen
      · rw [h3]
        intro z hz hm
        dsimp only at hm ⊢
        rw [c3.2, Bool.or_eq_true, decide_eq_true_iff] at hm
        rw [c3.2, Bool.or_eq_true, decide_eq_true_iff]
        rcases hm with hm | hm
        · exact .inl (I.closed z hz hm)
        · right
          rcases c1.run.mem hm with e | ⟨u, hu, e⟩
          · rw [← c2] at e
            rw [hinj z y hz (c1.new y (List.mem_cons_self ..)).1 e]
            exact List.mem_cons_self ..
          · rw [hinj z u hz (c1.new u (List.mem_cons_of_mem _ hu)).1 e]
            exact List.mem_cons_of_mem _ hu
      · rw [h3]
        show met'.getD x false = true
        rw [c3.2]
        by_cases e : x = d
        · rw [e, decide_eq_true c1.run.first]; simp
        · rw [I.met x (by omega)]; rfl

/-- All faces' darts. -/
structure Fcs (D : DM) (P : List (List Nat)) : Prop where
  map : (D.outer (2 * D.n)).all.map D.piece = P
  nodup : P.flatten.Nodup
  mem : ∀ x, x ∈ P.flatten ↔ x < 2 * D.n
  pc : ∀ p, p ∈ P → ∃ h r, p = h :: r ∧ (∀ x, x ∈ p → h ≤ x) ∧ ∀ x, x ∈ p → D.ab.getD (x / 2) false = D.ab.getD (h / 2) false
  asc : P.Pairwise fun a b => a.headD 0 < b.headD 0
theorem left_side {D : DM} (g : D.good) (hs : ∀ v l, D.ls[v]? = some l → l.kind = 2 → D.ab.getD (D.ot.getD v 0) false = D.ab.getD v false) {x : Nat} (hx : x < 2 * D.n) : D.ab.getD (D.left x / 2) false = D.ab.getD (x / 2) false := by
  have e : D.left x = D.sig (revM x) := by unfold DM.sig; rw [rev_rev]
  obtain ⟨v, b, hv, hvb⟩ := leave_of (rev_lt hx)
  obtain ⟨l, hl⟩ : ∃ l, D.ls[v]? = some l := ⟨_, List.getElem?_eq_getElem (by rw [g.len]; exact hv)⟩
  have hh : D.ab.getD (x / 2) false = D.ab.getD (leaveM D.n v b / 2) false := by rw [← hvb, rev_half]
  rw [e, hh, hvb]
  rcases g.kind v l hl with hk | hk
  · rw [sig_pass g hl hk, side_pass g hl hk]
    obtain ⟨p, hp, hpk, _⟩ := g.axp _ (next_ltS (g.spa v l hl hk).1 (downB D.ls v == b))
    rw [side_pass g hp hpk]
    generalize downB D.ls (D.ax.getD (nextM D.m (D.sp.getD v 0) (downB D.ls v == b)) 0) = c
    generalize (downB D.ls v == b) = u
    cases c <;> cases u <;> rfl
  · obtain ⟨_, _, a, ha, ka, _⟩ := g.ot v l hl hk
    rw [sig_cross g hl hk, side_cross g ha ka, side_cross g hl hk, hs v l hl hk]
theorem fcs_all {D : DM} (g : D.good) (hs : ∀ v l, D.ls[v]? = some l → l.kind = 2 → D.ab.getD (D.ot.getD v 0) false = D.ab.getD v false) : ∃ P, Fcs D P := by
  obtain ⟨P, I⟩ := fcs (D := D) (fun x hx => DM.left_lt g.ok hx) (fun x y hx hy h => DM.left_inj g hx hy h) (2 * D.n) (Nat.le_refl _)
  refine ⟨P, I.map, by rw [I.flat]; exact I.nodup, fun x => by rw [I.flat, I.mem]; exact ⟨fun h => h.1, fun h => ⟨h, I.met x h⟩⟩, fun p hp => ?_, I.asc⟩
  obtain ⟨h, r, e1, _, e3, e4⟩ := I.pc p hp
  refine ⟨h, r, e1, e3, fun x hx => ?_⟩
  have key : ∀ {a b : Nat}, Orb D.left (2 * D.n) a b → D.ab.getD (b / 2) false = D.ab.getD (a / 2) false := by
    intro a b q
    induction q with
    | refl => rfl
    | fwd _ hy ih => rw [left_side g hs hy, ih]
    | bwd _ hy ih => rw [left_side g hs hy] at ih; exact ih
  exact key (e4 x hx)

end Go.Proofs.YtbbpockkafbfmaaDoor
