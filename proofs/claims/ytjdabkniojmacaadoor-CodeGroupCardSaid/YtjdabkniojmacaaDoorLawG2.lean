/-
  TurnG, GrpP, LawG1 in one: the walk of the law CodeGroup.
-/
import Derived.Test.YtjdabkniojmacaaDoorVnorm
import Derived.Test.YtjdabkniojmacaaDoorSameP
import Derived.Test.YtjdabkniojmacaaDoorLawH
import Derived.Test.YtjdabkniojmacaaDoorRefX
import Derived.Test.YtjdabkniojmacaaDoorDoorL
import Derived.Test.YtjdabkniojmacaaDoorTurnB
import Derived.Deep.RegionHeld3
namespace Go.Proofs.YtjdabkniojmacaaDoor
open Go.RowKit

/-- Names changed, on any letter. -/
def reN (ρ : Int → Int) (l : Lt) : Lt := if l.kind = 2 then ⟨l.kind, l.gate, l.rank, ρ l.id, l.sign, l.over⟩ else l
theorem reN_kind (ρ : Int → Int) (l : Lt) : (reN ρ l).kind = l.kind := by unfold reN; split <;> rfl
theorem Ren.std {ls : List Lt} {h : Lt → Lt} {ρ : Int → Int} (r : Ren ls h ρ) : ls.map h = ls.map (reN ρ) ∧ Ren ls (reN ρ) ρ :=
  ⟨List.map_congr_left fun l hl => by
    by_cases k : l.kind = 2
    · rw [r.two l hl k]; unfold reN; rw [if_pos k]
    · rw [r.one l hl k]; unfold reN; rw [if_neg k],
   ⟨fun l _ k => by unfold reN; rw [if_pos k], fun l _ k => by unfold reN; rw [if_neg k], r.inj, r.rng⟩⟩
theorem Ren.img {ls : List Lt} {ρ : Int → Int} {k : Lt → Lt} (hk : ∀ l, (k l).kind = l.kind) (hi : ∀ l, l.kind = 2 → (k l).id = l.id) (r : Ren ls (reN ρ) ρ) : Ren (ls.map k) (reN ρ) ρ := by
  refine ⟨fun l _ c => by unfold reN; rw [if_pos c], fun l _ c => by unfold reN; rw [if_neg c], fun l o hl ho kl ko e => ?_, fun l hl c => ?_⟩
  · obtain ⟨x, hx, rfl⟩ := List.mem_map.1 hl
    obtain ⟨y, hy, rfl⟩ := List.mem_map.1 ho
    rw [hk] at kl ko
    rw [hi x kl, hi y ko] at e ⊢
    exact r.inj x y hx hy kl ko e
  · obtain ⟨x, hx, rfl⟩ := List.mem_map.1 hl
    rw [hk] at c
    rw [hi x c, cnt2_map (fun l _ => hk l)]
    exact r.rng x hx c
/-- The normal form: a start, a direction, names. -/
theorem norm_form {f : Int} {ls : List Lt} (hv : checkE f ls = 0) (h0 : 0 < ls.length) : ∃ (a : Nat) (l : Lt) (ρ : Int → Int), ls[a]? = some l ∧ l.kind = 1 ∧
    ((downB ls a = true ∧ normL f ls = (followL ls (a : Int) 1).map (reN ρ) ∧ Ren (followL ls (a : Int) 1) (reN ρ) ρ) ∨
     (downB ls a = false ∧ normL f ls = (followL ls (a : Int) (-1)).map (reN ρ) ∧ Ren (followL ls (a : Int) (-1)) (reN ρ) ρ)) := by
  obtain ⟨a, ⟨l, h1, h2, _⟩, e⟩ := leftmost_ex hv h0
  have go : ∀ s : Int, checkE f (followL ls (a : Int) s) = 0 → ∃ ρ, renL (followL ls (a : Int) s) = (followL ls (a : Int) s).map (reN ρ) ∧ Ren (followL ls (a : Int) s) (reN ρ) ρ := by
    intro s hs
    obtain ⟨st, pt, V⟩ := valid_parts hs
    obtain ⟨h, ρ, R, e⟩ := renL_ren (ls := followL ls (a : Int) s) (fun l hl hk => by have := pair_fine V.pair l hl hk; exact ⟨this.1, this.2.1⟩)
    exact ⟨ρ, e.trans R.std.1, R.std.2⟩
  cases hd : downB ls a with
  | true =>
    obtain ⟨ρ, g1, g2⟩ := go 1 (valid_start hv h1 h2 hd)
    refine ⟨a, l, ρ, h1, h2, .inl ⟨hd, ?_, g2⟩⟩
    rw [e]; unfold candL; rw [if_pos hd]; exact g1
  | false =>
    obtain ⟨ρ, g1, g2⟩ := go (-1) (valid_back hv h1 h2 hd)
    refine ⟨a, l, ρ, h1, h2, .inr ⟨hd, ?_, g2⟩⟩
    rw [e]; unfold candL; rw [if_neg (by rw [hd]; simp)]; exact g1

/-- Letterwise images of the normal form. -/
theorem norm_img {f : Int} {ls : List Lt} {k : Lt → Lt} (hv : checkE f ls = 0) (hk : ∀ l, (k l).kind = l.kind) (hi : ∀ l, l.kind = 2 → (k l).id = l.id) (hc : ∀ ρ l, k (reN ρ l) = reN ρ (k l)) (hvk : checkE f (ls.map k) = 0) :
    normL f ((normL f ls).map k) = normL f (ls.map k) := by
  rcases Nat.eq_zero_or_pos ls.length with e | h0
  · obtain rfl : ls = [] := List.eq_nil_of_length_eq_zero e
    rw [normL_nil]
  obtain ⟨a, l, ρ, h1, h2, h3⟩ := norm_form hv h0
  have ha := lt_len h1
  have hl' : (ls.map k)[a]? = some (k l) := by rw [List.getElem?_map, h1]; rfl
  have hk' : (k l).kind = 1 := (hk l).trans h2
  have hdk : downB (ls.map k) a = downB ls a := downB_map (fun l _ => hk l) a
  have com : ∀ s : Int, ((followL ls (a : Int) s).map (reN ρ)).map k = (followL (ls.map k) (a : Int) s).map (reN ρ) := by
    intro s
    rw [follow_map, List.map_map, List.map_map]
    exact List.map_congr_left fun x _ => hc ρ x
  rcases h3 with ⟨hd, e, r⟩ | ⟨hd, e, r⟩
  · rw [e, com 1]
    have r' : Ren (followL (ls.map k) (a : Int) 1) (reN ρ) ρ := by rw [follow_map]; exact r.img hk hi
    rw [norm_ren r' (valid_start hvk hl' hk' (hdk.trans hd)), norm_start hvk hl' hk' (hdk.trans hd)]
  · rw [e, com (-1)]
    have r' : Ren (followL (ls.map k) (a : Int) (-1)) (reN ρ) ρ := by rw [follow_map]; exact r.img hk hi
    rw [norm_ren r' (valid_back hvk hl' hk' (hdk.trans hd)), norm_back hvk hl' hk' (hdk.trans hd)]

theorem swap_ren (ρ : Int → Int) (l : Lt) : swapL (reN ρ l) = reN ρ (swapL l) := by
  unfold reN
  by_cases k : l.kind = 2
  · rw [if_pos k, if_pos (show (swapL l).kind = 2 from k)]; rfl
  · rw [if_neg k, if_neg (show ¬ (swapL l).kind = 2 from k)]
theorem other_ren (ρ : Int → Int) (l : Lt) : otherL (reN ρ l) = reN ρ (otherL l) := by
  unfold reN
  by_cases k : l.kind = 2
  · rw [if_pos k, if_pos (show (otherL l).kind = 2 from k)]; rfl
  · rw [if_neg k, if_neg (show ¬ (otherL l).kind = 2 from k)]
theorem mir_two {f : Int} {ls : List Lt} {l : Lt} (k : l.kind = 2) : mirL f ls l = ⟨l.kind, l.gate, l.rank, l.id, -l.sign, l.over⟩ := by
  unfold mirL; rw [if_neg (by rw [k]; decide)]
theorem mir_ren (f : Int) (ls : List Lt) (ρ : Int → Int) (l : Lt) : mirL f ls (reN ρ l) = reN ρ (mirL f ls l) := by
  by_cases k : l.kind = 2
  · rw [mir_two k]
    unfold reN
    rw [if_pos k, if_pos (show l.kind = 2 from k)]
    exact mir_two (l := ⟨l.kind, l.gate, l.rank, ρ l.id, l.sign, l.over⟩) k
  · have k' : ¬ (mirL f ls l).kind = 2 := by rw [mir_kind]; exact k
    unfold reN
    rw [if_neg k, if_neg k']
theorem mir_congr {f : Int} {ls ls' : List Lt} (h : ∀ g, cntB (inGate g) ls' = cntB (inGate g) ls) : mirL f ls' = mirL f ls := by
  funext l
  unfold mirL
  rw [h]
theorem gate_ren {ls : List Lt} {ρ : Int → Int} (g : Int) : cntB (inGate g) (ls.map (reN ρ)) = cntB (inGate g) ls := cntB_map (fun o _ => by
  unfold reN
  by_cases k : o.kind = 2
  · rw [if_pos k]; rfl
  · rw [if_neg k])
theorem norm_gate {f : Int} {ls : List Lt} (hv : checkE f ls = 0) (g : Int) : cntB (inGate g) (normL f ls) = cntB (inGate g) ls := by
  rcases Nat.eq_zero_or_pos ls.length with e | h0
  · obtain rfl : ls = [] := List.eq_nil_of_length_eq_zero e
    rw [normL_nil]
  obtain ⟨a, l, ρ, h1, h2, h3⟩ := norm_form hv h0
  rcases h3 with ⟨_, e, _⟩ | ⟨_, e, _⟩
  · rw [e, gate_ren, cntB_follow (lt_len h1) (.inl rfl)]
  · rw [e, gate_ren, cntB_follow (lt_len h1) (.inr rfl)]
theorem norm_swap {f : Int} {ls : List Lt} (hv : checkE f ls = 0) : normL f ((normL f ls).map swapL) = normL f (ls.map swapL) :=
  norm_img hv (fun _ => rfl) (fun _ _ => rfl) swap_ren (valid_swap hv)
theorem norm_mirror {f : Int} {ls : List Lt} (hv : checkE f ls = 0) : normL f ((normL f ls).map (mirL f (normL f ls))) = normL f (ls.map (mirL f ls)) := by
  rw [mir_congr (norm_gate hv)]
  exact norm_img hv (mir_kind f ls) (fun l k => by rw [mir_two k]) (mir_ren f ls) (valid_mirror hv)

/-- The turned code, from any pass that goes up. -/
theorem turn_at {ls : List Lt} {R R' : Nat} {l l' : Lt} (hev : cntB isPass ls % 2 = 0) (hl : ls[R]? = some l) (hd : downB ls R = false) (hl' : ls[R']? = some l') :
    (followL (ls.map otherL) (R : Int) 1)[rotM ls.length R R']? = some (otherL l') ∧ downB (followL (ls.map otherL) (R : Int) 1) (rotM ls.length R R') = !downB ls R' ∧
    ∀ s : Int, s = 1 ∨ s = -1 → followL (followL (ls.map otherL) (R : Int) 1) ((rotM ls.length R R' : Nat) : Int) s = followL (ls.map otherL) (R' : Int) s := by
  have hR := lt_len hl
  have hR' := lt_len hl'
  have hml : (ls.map otherL).length = ls.length := List.length_map _
  have hq := rot_lt hR hR'
  have hcp : cntB isPass (ls.map otherL) = cntB isPass ls := cntP_map (fun l _ => rfl)
  refine ⟨?_, ?_, fun s hs => ?_⟩
  · rw [followL_get (by rw [hml]; exact hq), hml, rot_step hR hR', List.getElem?_map, hl']; rfl
  · have h5 := downB_follow' (ls := ls.map otherL) (R := R) (by rw [hcp]; exact hev) (by rw [hml]; exact hR) (rotM ls.length R R') (by rw [hml]; exact hq)
    rw [hml, rot_step hR hR', downB_map (h := otherL) (fun l _ => rfl), downB_map (h := otherL) (fun l _ => rfl), hd] at h5
    rw [h5]
    cases downB ls R' <;> rfl
  · rw [follow_fwd (by rw [hml]; exact hR) (by rw [hml]; exact hq) hs, hml, rot_step hR hR']
theorem norm_turn {f : Int} {ls : List Lt} {R R' : Nat} {l l' : Lt} (hv : checkE f ls = 0) (hl : ls[R]? = some l) (hk : l.kind = 1) (hd : downB ls R = false) (hl' : ls[R']? = some l') (hk' : l'.kind = 1) (hd' : downB ls R' = false) :
    normL f (followL (ls.map otherL) (R' : Int) 1) = normL f (followL (ls.map otherL) (R : Int) 1) := by
  obtain ⟨h1, h2, h3⟩ := turn_at (even_of hv (Nat.lt_of_le_of_lt (Nat.zero_le _) (lt_len hl))) hl hd hl'
  rw [← h3 1 (.inl rfl)]
  exact norm_start (valid_turn hv hl hk hd) h1 hk' (by rw [h2, hd']; rfl)
theorem norm_turn_back {f : Int} {ls : List Lt} {R R' : Nat} {l l' : Lt} (hv : checkE f ls = 0) (hl : ls[R]? = some l) (hk : l.kind = 1) (hd : downB ls R = false) (hl' : ls[R']? = some l') (hk' : l'.kind = 1) (hd' : downB ls R' = true) :
    normL f (followL (ls.map otherL) (R' : Int) (-1)) = normL f (followL (ls.map otherL) (R : Int) 1) := by
  obtain ⟨h1, h2, h3⟩ := turn_at (even_of hv (Nat.lt_of_le_of_lt (Nat.zero_le _) (lt_len hl))) hl hd hl'
  rw [← h3 (-1) (.inr rfl)]
  exact norm_back (valid_turn hv hl hk hd) h1 hk' (by rw [h2, hd']; rfl)
/-- A pass that goes up. -/
def UpAt (ls : List Lt) (R : Nat) : Prop := ∃ l, ls[R]? = some l ∧ l.kind = 1 ∧ downB ls R = false
theorem UpAt.map {ls : List Lt} {k : Lt → Lt} (hk : ∀ l, (k l).kind = l.kind) {R : Nat} : UpAt (ls.map k) R ↔ UpAt ls R := by
  unfold UpAt
  rw [downB_map (fun l _ => hk l)]
  constructor
  · rintro ⟨l, h1, h2, h3⟩
    rw [List.getElem?_map] at h1
    cases hh : ls[R]? with
    | none => rw [hh] at h1; cases h1
    | some y =>
      rw [hh] at h1
      injection h1 with h1
      exact ⟨y, rfl, by rw [← hk y, h1]; exact h2, h3⟩
  · rintro ⟨l, h1, h2, h3⟩
    exact ⟨k l, by rw [List.getElem?_map, h1]; rfl, (hk l).trans h2, h3⟩
theorem next_up_at {f : Int} {ls : List Lt} {r : Int} (hv : checkE f ls = 0) (h0 : 0 < ls.length) (h : NextP ls r) : ∃ R : Nat, r = (R : Int) ∧ UpAt ls R := by
  obtain ⟨R, rfl, h1, h2, h3, h4⟩ := h h0
  obtain ⟨st, pt, V⟩ := valid_parts hv
  obtain ⟨l0, g1, g2, _⟩ := closed_first' V.closed h0
  obtain ⟨l, hl⟩ : ∃ l, ls[R]? = some l := ⟨_, List.getElem?_eq_getElem h2⟩
  exact ⟨R, rfl, l, hl, h3 l hl, second_down ⟨l0, g1, g2⟩ h1 h2 h4⟩
theorem up_norm {f : Int} {ls : List Lt} {R R' : Nat} (hv : checkE f ls = 0) (h : UpAt ls R) (h' : UpAt ls R') : normL f (followL (ls.map otherL) (R' : Int) 1) = normL f (followL (ls.map otherL) (R : Int) 1) := by
  obtain ⟨l, h1, h2, h3⟩ := h
  obtain ⟨l', g1, g2, g3⟩ := h'
  exact norm_turn hv h1 h2 h3 g1 g2 g3
theorem up_valid {f : Int} {ls : List Lt} {R : Nat} (hv : checkE f ls = 0) (h : UpAt ls R) : checkE f (followL (ls.map otherL) (R : Int) 1) = 0 := by
  obtain ⟨l, h1, h2, h3⟩ := h
  exact valid_turn hv h1 h2 h3
/-- The normal form's turn. -/
theorem up_of_norm {f : Int} {ls : List Lt} {R r : Nat} (hv : checkE f ls = 0) (h : UpAt ls R) (hr : UpAt (normL f ls) r) : normL f (followL ((normL f ls).map otherL) (r : Int) 1) = normL f (followL (ls.map otherL) (R : Int) 1) := by
  obtain ⟨l, h1, h2, h3⟩ := h
  have hR := lt_len h1
  have h0 : 0 < ls.length := by omega
  have hev := even_of hv h0
  have hml : (ls.map otherL).length = ls.length := List.length_map _
  obtain ⟨a, la, ρ, g1, g2, g3⟩ := norm_form hv h0
  have ha := lt_len g1
  rcases g3 with ⟨hd, e, rn⟩ | ⟨hd, e, rn⟩
  · have hvF := valid_start hv g1 g2 hd
    rw [e] at hr
    rw [UpAt.map (reN_kind ρ)] at hr
    have hrF := hr
    obtain ⟨x, x1, x2, x3⟩ := hr
    have hrl : r < ls.length := by have := lt_len x1; rw [followL_len] at this; exact this
    have e2 : (normL f ls).map otherL = ((followL ls (a : Int) 1).map otherL).map (reN ρ) := by
      rw [e, List.map_map, List.map_map]
      exact List.map_congr_left fun y _ => other_ren ρ y
    rw [e2, follow_map]
    have hl2 : r < ((followL ls (a : Int) 1).map otherL).length := by rw [List.length_map, followL_len]; exact hrl
    have rn' : Ren (followL ((followL ls (a : Int) 1).map otherL) (r : Int) 1) (reN ρ) ρ := (rn.img (k := otherL) (fun _ => rfl) (fun _ _ => rfl)).follow hl2 (.inl rfl)
    rw [norm_ren rn' (up_valid hvF hrF)]
    rw [← follow_map (h := otherL) (R := a), follow_fwd (by rw [hml]; exact ha) (by rw [hml]; exact hrl) (.inl rfl), hml]
    rw [followL_get hrl] at x1
    rw [downB_follow hev ha hd r hrl] at x3
    exact norm_turn hv h1 h2 h3 x1 x2 x3
  · have hvF := valid_back hv g1 g2 hd
    rw [e] at hr
    rw [UpAt.map (reN_kind ρ)] at hr
    have hrF := hr
    obtain ⟨x, x1, x2, x3⟩ := hr
    have hrl : r < ls.length := by have := lt_len x1; rw [followL_len] at this; exact this
    have e2 : (normL f ls).map otherL = ((followL ls (a : Int) (-1)).map otherL).map (reN ρ) := by
      rw [e, List.map_map, List.map_map]
      exact List.map_congr_left fun y _ => other_ren ρ y
    rw [e2, follow_map]
    have hl2 : r < ((followL ls (a : Int) (-1)).map otherL).length := by rw [List.length_map, followL_len]; exact hrl
    have rn' : Ren (followL ((followL ls (a : Int) (-1)).map otherL) (r : Int) 1) (reN ρ) ρ := (rn.img (k := otherL) (fun _ => rfl) (fun _ _ => rfl)).follow hl2 (.inl rfl)
    rw [norm_ren rn' (up_valid hvF hrF)]
    rw [← follow_map (h := otherL) (R := a), follow_back (by rw [hml]; exact ha) (by rw [hml]; exact hrl), hml]
    rw [followL_get hrl] at x1
    have hd1 : downB ls (a + 1) = true := by
      rw [downB_succ g1, hd, show isPass la = true by simp [isPass, g2]]
      rfl
    rw [downB_back hev ha hd1 r hrl, downB_succ x1, show isPass x = true by simp [isPass, x2]] at x3
    refine norm_turn_back hv h1 h2 h3 x1 x2 ?_
    cases hh : downB ls (stepM ls.length (a : Int) (-1) r) with
    | true => rfl
    | false => rw [hh] at x3; cases x3
theorem other_other {f : Int} {ls : List Lt} (hv : checkE f ls = 0) : (ls.map otherL).map otherL = ls := by
  rw [List.map_map]
  conv => rhs; rw [← List.map_id ls]
  refine List.map_congr_left fun l hl => ?_
  obtain ⟨_, _, _, hp, _⟩ := checkE_all hv
  show otherL (otherL l) = l
  rcases hp l hl with c | c
  · obtain ⟨k, g, r, i, s, o⟩ := l
    dsimp only at c
    obtain ⟨rfl, rfl, rfl, rfl, _⟩ := c
    rfl
  · obtain ⟨k, g, r, i, s, o⟩ := l
    dsimp only at c
    obtain ⟨rfl, _⟩ := c
    cases o <;> rfl
/-- Turned twice. -/
theorem up_twice {f : Int} {ls : List Lt} {R r : Nat} (hv : checkE f ls = 0) (h : UpAt ls R) (hr : UpAt (followL (ls.map otherL) (R : Int) 1) r) : normL f (followL ((followL (ls.map otherL) (R : Int) 1).map otherL) (r : Int) 1) = normL f ls := by
  obtain ⟨l, h1, h2, h3⟩ := h
  have hR := lt_len h1
  have hml : (ls.map otherL).length = ls.length := List.length_map _
  obtain ⟨x, x1, x2, x3⟩ := hr
  have hrl : r < ls.length := by have := lt_len x1; rw [followL_len, hml] at this; exact this
  have hq := stepM_lt (n := ls.length) (by omega) (R : Int) 1 r
  obtain ⟨y, hy⟩ : ∃ y, ls[stepM ls.length (R : Int) 1 r]? = some y := ⟨_, List.getElem?_eq_getElem hq⟩
  obtain ⟨g1, g2, _⟩ := turn_at (even_of hv (by omega)) h1 h3 hy
  rw [step_rot hR hrl] at g1 g2
  rw [x1] at g1
  injection g1 with g1
  rw [g2] at x3
  rw [← follow_map, other_other hv, follow_fwd hR hrl (.inl rfl)]
  refine norm_start hv hy (by rw [g1] at x2; exact x2) ?_
  cases hh : downB ls (stepM ls.length (R : Int) 1 r) with
  | true => rfl
  | false => rw [hh] at x3; cases x3
theorem swap_swap {f : Int} {ls : List Lt} (hv : checkE f ls = 0) : (ls.map swapL).map swapL = ls := by
  rw [List.map_map]
  conv => rhs; rw [← List.map_id ls]
  refine List.map_congr_left fun l hl => ?_
  obtain ⟨_, _, _, hp, _⟩ := checkE_all hv
  show swapL (swapL l) = l
  obtain ⟨k, g, r, i, s, o⟩ := l
  rcases hp _ hl with c | c
  · dsimp only at c
    obtain ⟨rfl, rfl, rfl, rfl, _⟩ := c
    rfl
  · dsimp only at c
    obtain ⟨rfl, _⟩ := c
    unfold swapL
    dsimp only
    rw [Int.neg_neg]
    cases o <;> rfl
theorem mir_mir {f : Int} {ls : List Lt} (hv : checkE f ls = 0) : (ls.map (mirL f ls)).map (mirL f (ls.map (mirL f ls))) = ls := by
  rw [List.map_map]
  conv => rhs; rw [← List.map_id ls]
  refine List.map_congr_left fun l hl => ?_
  obtain ⟨_, _, _, hp, _⟩ := checkE_all hv
  show mirL f (ls.map (mirL f ls)) (mirL f ls l) = l
  rcases hp _ hl with c | c
  · have e : mirL f ls l = ⟨1, f - l.gate, cntB (inGate l.gate) ls + 1 - l.rank, 0, 0, false⟩ := by unfold mirL; rw [if_pos c.1]
    have hg := mir_gate (f := f) (ls := ls) (f - l.gate)
    rw [show f - (f - l.gate) = l.gate by omega] at hg
    rw [e]
    show mirL f _ _ = _
    generalize ls.map (mirL f ls) = M at hg ⊢
    unfold mirL
    rw [if_pos (by rfl)]
    dsimp only
    rw [hg, show f - (f - l.gate) = l.gate by omega]
    obtain ⟨k, g, r, i, s, o⟩ := l
    dsimp only at c ⊢
    obtain ⟨rfl, rfl, rfl, rfl, _⟩ := c
    rw [show ∀ x : Int, x + 1 - (x + 1 - r) = r by intro x; omega]
  · rw [mir_two c.1, mir_two (by exact c.1), Int.neg_neg]
theorem swap_mir {f : Int} {ls : List Lt} : (ls.map swapL).map (mirL f (ls.map swapL)) = (ls.map (mirL f ls)).map swapL := by
  rw [mir_congr (ls := ls) (ls' := ls.map swapL) (fun g => cntB_map (fun o _ => rfl)), List.map_map, List.map_map]
  refine List.map_congr_left fun l _ => ?_
  show mirL f ls (swapL l) = swapL (mirL f ls l)
  unfold mirL
  by_cases k : l.kind = 1
  · rw [if_pos k, if_pos (show (swapL l).kind = 1 from k)]; rfl
  · rw [if_neg k, if_neg (show ¬ (swapL l).kind = 1 from k)]; rfl
theorem swap_other (ls : List Lt) : (ls.map swapL).map otherL = (ls.map otherL).map swapL := by
  rw [List.map_map, List.map_map]
  exact List.map_congr_left fun l _ => rfl
theorem mir_other {f : Int} {ls xs : List Lt} : (ls.map (mirL f xs)).map otherL = (ls.map otherL).map (mirL f xs) := by
  rw [List.map_map, List.map_map]
  refine List.map_congr_left fun l _ => ?_
  show otherL (mirL f xs l) = mirL f xs (otherL l)
  unfold mirL
  by_cases k : l.kind = 1
  · rw [if_pos k, if_pos (show (otherL l).kind = 1 from k)]; rfl
  · rw [if_neg k, if_neg (show ¬ (otherL l).kind = 1 from k)]; rfl
/-- Swapped or reflected, then turned; turned, then swapped or reflected. -/
theorem swap_turn {f : Int} {ls : List Lt} {R r : Nat} (hv : checkE f ls = 0) (h : UpAt ls R) (hr : UpAt (ls.map swapL) r) : normL f (followL ((ls.map swapL).map otherL) (r : Int) 1) = normL f ((followL (ls.map otherL) (R : Int) 1).map swapL) := by
  rw [← follow_map, ← swap_other]
  exact up_norm (valid_swap hv) ((UpAt.map (k := swapL) (fun _ => rfl)).2 h) hr
theorem mir_turn {f : Int} {ls : List Lt} {R r : Nat} (hv : checkE f ls = 0) (h : UpAt ls R) (hr : UpAt (ls.map (mirL f ls)) r) : normL f (followL ((ls.map (mirL f ls)).map otherL) (r : Int) 1) = normL f ((followL (ls.map otherL) (R : Int) 1).map (mirL f (followL (ls.map otherL) (R : Int) 1))) := by
  have hml : (ls.map otherL).length = ls.length := List.length_map _
  obtain ⟨l, h1, h2, h3⟩ := h
  have hR := lt_len h1
  rw [mir_congr (ls := ls) (ls' := followL (ls.map otherL) (R : Int) 1) (fun g => by rw [cntB_follow (by rw [hml]; exact hR) (.inl rfl)]; exact cntB_map (fun o _ => rfl)), ← follow_map, ← mir_other]
  exact up_norm (valid_mirror hv) ((UpAt.map (mir_kind f ls)).2 ⟨l, h1, h2, h3⟩) hr

end Go.Proofs.YtjdabkniojmacaaDoor

namespace Go.Proofs.YtjdabkniojmacaaDoor
open Go.RowKit

theorem idsG {f : Int} {L : List Lt} (hv : checkE f L = 0) : ∀ l, l ∈ L → I64 l.id := by
  obtain ⟨st, pt, V⟩ := valid_parts hv
  intro l hl
  have h3 := V.len
  have h4 := cntK_take_le 2 L L.length
  rw [List.take_length] at h4
  rcases V.plain l hl with c | c
  · rw [c.2.1]; constructor <;> decide
  · have h1 := pair_fine V.pair l hl c.1
    constructor <;> omega
theorem chkG {f : Int} {A : Option Addr} {n c : Nat} {L : List Lt} {w : World} (hv : checkE f L = 0) (hL : LS w A n L) (hA : ∀ b off, A = some ⟨b, off, none⟩ → b < w.heap.size) : ChkAt f A n c 0 w := by
  intro W hW
  have h := check_calls f A n c L W (hL.below hW) (fun b off e => Nat.lt_of_lt_of_le (hA b off e) hW.size) (idsG hv)
  rw [hv] at h
  exact h
theorem lenG {f : Int} {ls : List Lt} {n : Nat} (hv : checkE f ls = 0) (hl : ls.length = n) : (normL f ls).length = n := by
  obtain ⟨st, pt, V⟩ := valid_parts hv
  rw [← hl]
  unfold normL
  rw [V.ord]
  dsimp only
  split
  · rename_i e; rw [e]; rfl
  · unfold candL; rw [renL_len, followL_len]
/-- A code with these letters, whose block is there. -/
def GrPost (f : Int) (n : Nat) (L : List Lt) (w : World) (e : Ending) (w' : World) : Prop :=
  ∃ g, e = .returned (.tuple #[.agg #[.int .i64 f, .slice (some ⟨g, 0, none⟩) n n], .int .i64 0]) ∧ LS w' (some ⟨g, 0, none⟩) n L ∧ g < w'.heap.size ∧ Below w.heap.size w w'
theorem OkL.gr {f : Int} {n : Nat} {L : List Lt} {w w' : World} {e : Ending} (hl : L.length = n) (h : OkL f n L w e w') : GrPost f n L w e w' := by
  obtain ⟨g, rfl, ho, hb⟩ := h
  unfold OwnL at ho
  rw [hl] at ho
  exact ⟨g, rfl, row_ls ho hl, (World.ownsRow.lt ho g rfl).2, hb⟩
theorem swap_g (f : Int) (A : Option Addr) (n c : Nat) (ls : List Lt) (w : World) (hL : LS w A n ls) (hA : ∀ b off, A = some ⟨b, off, none⟩ → b < w.heap.size) (hn : n ≤ 1000) (hv : checkE f ls = 0) :
    Calls Tryd.prog 36 #[.agg #[.int .i64 f, .slice A n c]] w (GrPost f n (ls.map swapL) w) := by
  refine (swap_calls f A n c ls w hL hn (checkE_all hv).2.2.2.1 (chkG hv hL hA)).mono fun e w' h => OkL.gr ?_ h
  rw [List.length_map]; exact hL.1
theorem mirror_g (f : Int) (A : Option Addr) (n c : Nat) (ls : List Lt) (w : World) (hL : LS w A n ls) (hA : ∀ b off, A = some ⟨b, off, none⟩ → b < w.heap.size) (hn : n ≤ 1000) (hv : checkE f ls = 0) :
    Calls Tryd.prog 37 #[.agg #[.int .i64 f, .slice A n c]] w (GrPost f n (ls.map (mirL f ls)) w) := by
  obtain ⟨_, hf, _, hp, _⟩ := checkE_all hv
  obtain ⟨fn, rfl⟩ : ∃ fn : Nat, f = (fn : Int) := ⟨f.toNat, by omega⟩
  refine (mirror_calls fn A n c ls w hL hn (by omega) hp (fun l hl hk => (checkE_rank hv l hl hk).2) (chkG hv hL hA)).mono fun e w' h => OkL.gr ?_ h
  rw [List.length_map]; exact hL.1
theorem turn_g (f : Int) (A : Option Addr) (n c : Nat) (ls : List Lt) (w : World) (hL : LS w A n ls) (hA : ∀ b off, A = some ⟨b, off, none⟩ → b < w.heap.size) (hn : n ≤ 1000) (hv : checkE f ls = 0) :
    Calls Tryd.prog 38 #[.agg #[.int .i64 f, .slice A n c]] w fun e w' => ∃ R : Nat, (0 < ls.length → UpAt ls R) ∧ GrPost f n (followL (ls.map otherL) (R : Int) 1) w e w' := by
  refine (turn_calls' f A n c ls w hL hn (checkE_all hv).2.2.1 (chkG hv hL hA)).mono fun e w' h => ?_
  obtain ⟨r, hr, h⟩ := h
  rcases Nat.eq_zero_or_pos ls.length with e0 | h0
  · obtain rfl : ls = [] := List.eq_nil_of_length_eq_zero e0
    exact ⟨0, fun h => absurd h (by decide), OkL.gr hL.1 h⟩
  · obtain ⟨R, rfl, hu⟩ := next_up_at hv h0 hr
    refine ⟨R, fun _ => hu, OkL.gr ?_ h⟩
    rw [followL_len, List.length_map]; exact hL.1
theorem normal_zeroG (f : Int) (A : Option Addr) (c : Nat) (w : World) (hA : ∀ b off, A = some ⟨b, off, none⟩ → b < w.heap.size) (hv : checkE f [] = 0) :
    Calls Tryd.prog 22 #[.agg #[.int .i64 f, .slice A 0 c]] w fun e w' => e = .returned (.tuple #[.agg #[.int .i64 f, .slice none 0 0], .int .i64 0]) ∧ Below w.heap.size w w' := by
  have HDR : Hid (∀ W, Below w.heap.size w W → Calls Tryd.prog 58 #[.agg #[.int .i64 f, .slice A 0 c]] W fun e w' => ∃ P, e = .returned (.tuple #[.pointer (some ⟨P, 0, none⟩), .int .i64 0]) ∧ Below W.heap.size W w') := by
    intro W hW
    refine (draw_calls f A 0 c [] W ⟨rfl, fun h => absurd h (by omega)⟩ (fun b off e => Nat.lt_of_lt_of_le (hA b off e) hW.size) (fun l hl => by cases hl)).mono ?_
    rintro e w' ⟨hb, ⟨hne, _⟩ | ⟨P, _, _, _, rfl, _⟩⟩
    · exact absurd hv hne
    · exact ⟨P, rfl, hb⟩
  clear hA hv
  go_enter Tryd.func22, Tryd.ntmps22
  go_wp2_with fail
  obtain ⟨W0, hW0⟩ : ∃ W0, W0 = (w.alloc (.cells #[.int .i64 f, .slice A 0 c] 24)).alloc (.cells #[.int .i64 0, .slice none 0 0] 24) := ⟨_, rfl⟩
  have HF0 := Lib.hid (two_mem w _ _ W0 hW0)
  rw [← hW0]
  clear hW0
  refine (HDR.out _ HF0.out.2.2.2).mono ?_
  rintro e w1 ⟨P, rfl, hb1⟩
  have HM1 := Lib.hid (two_next HF0.out hb1)
  have a0 := Lib.cell_of_heap HM1.out.1 0
  have a1 := Lib.cell_of_heap HM1.out.1 1
  have r0 := Lib.cell_of_heap HM1.out.2.1 0
  have r1 := Lib.cell_of_heap HM1.out.2.1 1
  have rf : ∀ x, w1.frozen? ⟨w.heap.size + 1, x, none⟩ = false := by intro x; have h1 := HM1.out.2.1; simp [World.frozen?, h1]
  clear hb1
  go_wp2_with fail
  obtain ⟨X, hX⟩ : ∃ X, X = (w1.setCell ⟨w.heap.size + 1, 0, none⟩ (.int .i64 f)).setCell ⟨w.heap.size + 1, 1, none⟩ (.slice none 0 0) := ⟨_, rfl⟩
  obtain ⟨k0, k1, hXB, _, _⟩ := res_end HM1.out.2.1 (by omega) HM1.out.2.2.2 _ _ hX
  rw [← hX]
  exact bodyPost_ret (v := .tuple #[.agg #[.int .i64 f, .slice none 0 0], .int .i64 0]) (by simp [results, Tryd.results22, go_sem, k0, k1]) rfl ⟨rfl, hXB⟩
theorem normal_g (f : Int) (A : Option Addr) (n c : Nat) (ls : List Lt) (w : World) (hL : LS w A n ls) (hA : ∀ b off, A = some ⟨b, off, none⟩ → b < w.heap.size) (hv : checkE f ls = 0) :
    Calls Tryd.prog 22 #[.agg #[.int .i64 f, .slice A n c]] w fun e w' => ∃ Av cv, e = .returned (.tuple #[.agg #[.int .i64 f, .slice Av n cv], .int .i64 0]) ∧ LS w' Av n (normL f ls) ∧ (∀ b off, Av = some ⟨b, off, none⟩ → b < w'.heap.size) ∧ Below w.heap.size w w' := by
  have hl := hL.1
  rcases Nat.eq_zero_or_pos n with e | e
  · subst e
    obtain rfl : ls = [] := List.eq_nil_of_length_eq_zero hl
    rw [normL_nil]
    refine (normal_zeroG f A c w hA hv).mono ?_
    rintro e w' ⟨rfl, hb⟩
    exact ⟨none, 0, rfl, ⟨rfl, fun h => absurd h (by omega)⟩, fun b off e => (by cases e), hb⟩
  · refine (normal_ok f A n c ls w hL hA (idsG hv) hv).mono ?_
    rintro e' w' ⟨Av, cv, rfl, ho, hb⟩
    refine ⟨Av, cv, rfl, OkN.ls ho (lenG hv hl), fun b off e2 => ?_, hb⟩
    exact (World.ownsRow.lt (ho e) b (by rw [e2]; rfl)).2

/-- The facts, the empty code with them. -/
theorem up_valid0 {f : Int} {ls : List Lt} {R : Nat} (hv : checkE f ls = 0) (h : 0 < ls.length → UpAt ls R) : checkE f (followL (ls.map otherL) (R : Int) 1) = 0 := by
  rcases Nat.eq_zero_or_pos ls.length with e | h0
  · obtain rfl : ls = [] := List.eq_nil_of_length_eq_zero e
    exact hv
  · exact up_valid hv (h h0)
theorem up_twice0 {f : Int} {ls : List Lt} {R r : Nat} (hv : checkE f ls = 0) (h : 0 < ls.length → UpAt ls R) (hr : 0 < (followL (ls.map otherL) (R : Int) 1).length → UpAt (followL (ls.map otherL) (R : Int) 1) r) : normL f (followL ((followL (ls.map otherL) (R : Int) 1).map otherL) (r : Int) 1) = normL f ls := by
  rcases Nat.eq_zero_or_pos ls.length with e | h0
  · obtain rfl : ls = [] := List.eq_nil_of_length_eq_zero e
    rfl
  · exact up_twice hv (h h0) (hr (by rw [followL_len, List.length_map]; exact h0))
theorem swap_turn0 {f : Int} {ls : List Lt} {R r : Nat} (hv : checkE f ls = 0) (h : 0 < ls.length → UpAt ls R) (hr : 0 < (ls.map swapL).length → UpAt (ls.map swapL) r) : normL f (followL ((ls.map swapL).map otherL) (r : Int) 1) = normL f ((followL (ls.map otherL) (R : Int) 1).map swapL) := by
  rcases Nat.eq_zero_or_pos ls.length with e | h0
  · obtain rfl : ls = [] := List.eq_nil_of_length_eq_zero e
    rfl
  · exact swap_turn hv (h h0) (hr (by rw [List.length_map]; exact h0))
theorem mir_turn0 {f : Int} {ls : List Lt} {R r : Nat} (hv : checkE f ls = 0) (h : 0 < ls.length → UpAt ls R) (hr : 0 < (ls.map (mirL f ls)).length → UpAt (ls.map (mirL f ls)) r) : normL f (followL ((ls.map (mirL f ls)).map otherL) (r : Int) 1) = normL f ((followL (ls.map otherL) (R : Int) 1).map (mirL f (followL (ls.map otherL) (R : Int) 1))) := by
  rcases Nat.eq_zero_or_pos ls.length with e | h0
  · obtain rfl : ls = [] := List.eq_nil_of_length_eq_zero e
    rfl
  · exact mir_turn hv (h h0) (hr (by rw [List.length_map]; exact h0))
theorem up_of_norm0 {f : Int} {ls : List Lt} {R r : Nat} (hv : checkE f ls = 0) (h : 0 < ls.length → UpAt ls R) (hr : 0 < (normL f ls).length → UpAt (normL f ls) r) : normL f (followL ((normL f ls).map otherL) (r : Int) 1) = normL f (followL (ls.map otherL) (R : Int) 1) := by
  rcases Nat.eq_zero_or_pos ls.length with e | h0
  · obtain rfl : ls = [] := List.eq_nil_of_length_eq_zero e
    rw [normL_nil]; rfl
  · exact up_of_norm hv (h h0) (hr (by rw [lenG hv rfl]; exact h0))

end Go.Proofs.YtjdabkniojmacaaDoor

namespace Go.Proofs.YtjdabkniojmacaaDoor
open Go.RowKit

/-- Codes in their variables, with their letters. -/
def BxG (f : Int) (n : Nat) (w : World) (bs : List (Nat × Option Addr × Nat × List Lt)) (W : World) : Prop :=
  Below w.heap.size w W ∧ ∀ x, x ∈ bs → W.heap[x.1]? = some (.cells #[.int .i64 f, .slice x.2.1 n x.2.2.1] 24 (0, 0)) ∧ LS W x.2.1 n x.2.2.2 ∧ ∀ b off, x.2.1 = some ⟨b, off, none⟩ → b < W.heap.size
theorem BxG.below {f : Int} {n : Nat} {w W W' : World} {bs : List (Nat × Option Addr × Nat × List Lt)} (h : BxG f n w bs W) (hb : Below W.heap.size W W') : BxG f n w bs W' :=
  ⟨h.1.trans (hb.mono h.1.size), fun x hx => ⟨(hb.block _ (heap_lt (h.2 x hx).1)).trans (h.2 x hx).1, (h.2 x hx).2.1.below hb, fun b off e => Nat.lt_of_lt_of_le ((h.2 x hx).2.2 b off e) hb.size⟩⟩
theorem BxG.add {f : Int} {n : Nat} {w W : World} {bs : List (Nat × Option Addr × Nat × List Lt)} (h : BxG f n w bs W) (A : Option Addr) (c : Nat) (L : List Lt) (hL : LS W A n L) (hA : ∀ b off, A = some ⟨b, off, none⟩ → b < W.heap.size) :
    BxG f n w ((W.heap.size, A, c, L) :: bs) (W.alloc (.cells #[.int .i64 f, .slice A n c] 24)) := by
  have hb : Below W.heap.size W (W.alloc (.cells #[.int .i64 f, .slice A n c] 24)) := (Below.refl _ _).alloc (Nat.le_refl _) _
  obtain ⟨h1, h2⟩ := h.below hb
  refine ⟨h1, fun x hx => ?_⟩
  rcases List.mem_cons.1 hx with rfl | hx
  · exact ⟨heap_alloc_new W _, hL.below hb, fun b off e => Nat.lt_of_lt_of_le (hA b off e) hb.size⟩
  · exact h2 x hx

set_option maxHeartbeats 16000000 in
set_option maxRecDepth 100000 in
theorem codeGroup_main (f : Int) (A : Option Addr) (n c : Nat) (ls : List Lt) (w : World) (hn60 : n ≤ 60) (hL : LS w A n ls) (hv : checkE f ls = 0) (hA : ∀ b off, A = some ⟨b, off, none⟩ → b < w.heap.size)
    (hRC : ∀ W, Below w.heap.size w W → Calls Tryd.prog 13 #[.agg #[.int .i64 f, .slice A n c]] W fun e w' => e = .returned (.int .i64 0) ∧ Below W.heap.size W w')
    (hT : ItoaAll w) :
    Calls Tryd.prog 8 #[.agg #[.int .i64 f, .slice A n c]] w fun e w' => e = .returned (.bool true) ∧ Below w.heap.size w w' := by
  have HRC := Lib.hid hRC
  have HT := Lib.hid hT
  have HVc := Lib.hid hv
  have hle : n ≤ 1000000 := by omega
  have hn1 : n ≤ 1000 := by omega
  have HKN : Hid (∀ W, Below w.heap.size w W → Calls Tryd.prog 14 #[] W fun e w' => e = .returned (.bool true) ∧ Below W.heap.size W w') := fun W hW => known_calls W (HT.out.below hW)
  have t1 : decide ((n : Int) ≤ 60) = true := by rw [decide_eq_true_iff]; omega
  have HSM := Lib.hid (fun W => small_calls f A n c true W t1)
  have HLA := Lib.hid (And.intro hL hA)
  clear hRC hT hn60 hL hA hv
  go_enter Tryd.func8, Tryd.ntmps8
  go_wp2_with fail
  obtain ⟨W0, hW0⟩ : ∃ W0, W0 = w.alloc (.cells #[.int .i64 f, .slice A n c] 24) := ⟨_, rfl⟩
  obtain ⟨P, hP⟩ : ∃ P, P = w.heap.size := ⟨_, rfl⟩
  have HB0 : Hid (Below w.heap.size w W0) := by rw [hW0]; exact (Below.refl _ _).alloc (Nat.le_refl _) _
  have HP0 : Hid (W0.heap[P]? = some (.cells #[.int .i64 f, .slice A n c] 24 (0, 0))) := by rw [hW0, hP]; exact heap_alloc_new w _
  rw [← hW0, ← hP]
  clear hW0 hP
  refine (HSM.out _).mono ?_
  rintro e w1 ⟨rfl, hb⟩
  have HB1 : Hid (Below w.heap.size w w1) := HB0.out.trans (hb.mono HB0.out.size)
  have HP1 : Hid (w1.heap[P]? = some (.cells #[.int .i64 f, .slice A n c] 24 (0, 0))) := (hb.block P (heap_lt HP0.out)).trans HP0.out
  clear hb HB0 HP0
  have a0 := Lib.cell_of_heap HP1.out 0
  have a1 := Lib.cell_of_heap HP1.out 1
  go_wp2_with fail
  refine (HRC.out _ HB1.out).mono ?_
  rintro e U0 ⟨rfl, hb⟩
  have HB2 : Hid (Below w.heap.size w U0) := HB1.out.trans (hb.mono HB1.out.size)
  have HP2 : Hid (U0.heap[P]? = some (.cells #[.int .i64 f, .slice A n c] 24 (0, 0))) := (hb.block P (heap_lt HP1.out)).trans HP1.out
  have HZ0 : Hid (BxG f n w [(P, A, c, ls)] U0) := by
    refine ⟨HB2.out, fun x hx => ?_⟩
    rw [List.mem_singleton] at hx
    subst hx
    exact ⟨HP2.out, HLA.out.1.below HB2.out, fun b off e => Nat.lt_of_lt_of_le (HLA.out.2 b off e) HB2.out.size⟩
  clear hb HB1 HP1 a0 a1 HB2 HP2 HLA
  have a00 := Lib.cell_of_heap (HZ0.out.2 (P, A, c, ls) (.head _)).1 0
  have a01 := Lib.cell_of_heap (HZ0.out.2 (P, A, c, ls) (.head _)).1 1
  go_wp2_with fail
  refine (swap_g f (A) n (c) ls U0 (HZ0.out.2 (P, A, c, ls) (.head _)).2.1 (HZ0.out.2 (P, A, c, ls) (.head _)).2.2 hn1 HVc.out).mono ?_
  rintro e u1 ⟨g1, rfl, hls, hg, hb⟩
  obtain ⟨Ls, hE⟩ : ∃ Y, Y = ls.map swapL := ⟨_, rfl⟩
  rw [← hE] at hls
  have HVs : Hid (checkE f Ls = 0) := by rw [hE]; exact valid_swap HVc.out
  have HEs := Lib.hid hE
  obtain ⟨X1, hX⟩ : ∃ B, B = u1.heap.size := ⟨_, rfl⟩
  obtain ⟨U1, hU⟩ : ∃ V, V = u1.alloc (.cells #[.int .i64 f, .slice (some ⟨g1, 0, none⟩) n (n)] 24) := ⟨_, rfl⟩
  have HZ1 := Lib.hid ((HZ0.out.below hb).add (some ⟨g1, 0, none⟩) (n) Ls hls (fun b off e => by cases e; exact hg))
  rw [← hU, ← hX] at HZ1
  have HUE1 := Lib.hid hU
  have HXE1 := Lib.hid hX
  clear a00 a01
  have a00 := Lib.cell_of_heap (HZ1.out.2 (P, A, c, ls) (.tail _ (.head _))).1 0
  have a01 := Lib.cell_of_heap (HZ1.out.2 (P, A, c, ls) (.tail _ (.head _))).1 1
  rw [hU] at a00 a01
  clear hls hg hb hE HZ0 hU hX
  go_wp2_with fail
  rw [← HXE1.out, ← HUE1.out]
  refine (mirror_g f (A) n (c) ls U1 (HZ1.out.2 (P, A, c, ls) (.tail _ (.head _))).2.1 (HZ1.out.2 (P, A, c, ls) (.tail _ (.head _))).2.2 hn1 HVc.out).mono ?_
  rintro e u2 ⟨g2, rfl, hls, hg, hb⟩
  obtain ⟨Lm, hE⟩ : ∃ Y, Y = ls.map (mirL f ls) := ⟨_, rfl⟩
  rw [← hE] at hls
  have HVm : Hid (checkE f Lm = 0) := by rw [hE]; exact valid_mirror HVc.out
  have HEm := Lib.hid hE
  obtain ⟨X2, hX⟩ : ∃ B, B = u2.heap.size := ⟨_, rfl⟩
  obtain ⟨U2, hU⟩ : ∃ V, V = u2.alloc (.cells #[.int .i64 f, .slice (some ⟨g2, 0, none⟩) n (n)] 24) := ⟨_, rfl⟩
  have HZ2 := Lib.hid ((HZ1.out.below hb).add (some ⟨g2, 0, none⟩) (n) Lm hls (fun b off e => by cases e; exact hg))
  rw [← hU, ← hX] at HZ2
  have HUE2 := Lib.hid hU
  have HXE2 := Lib.hid hX
  clear a00 a01
  have a00 := Lib.cell_of_heap (HZ2.out.2 (P, A, c, ls) (.tail _ (.tail _ (.head _)))).1 0
  have a01 := Lib.cell_of_heap (HZ2.out.2 (P, A, c, ls) (.tail _ (.tail _ (.head _)))).1 1
  rw [hU] at a00 a01
  clear hls hg hb hE HZ1 hU hX
  go_wp2_with fail
  rw [← HXE2.out, ← HUE2.out]
  refine (turn_g f (A) n (c) ls U2 (HZ2.out.2 (P, A, c, ls) (.tail _ (.tail _ (.head _)))).2.1 (HZ2.out.2 (P, A, c, ls) (.tail _ (.tail _ (.head _)))).2.2 hn1 HVc.out).mono ?_
  rintro e u3 ⟨r3, hup, g3, rfl, hls, hg, hb⟩
  obtain ⟨Lt, hE⟩ : ∃ Y, Y = followL (ls.map otherL) (r3 : Int) 1 := ⟨_, rfl⟩
  rw [← hE] at hls
  have HVt : Hid (checkE f Lt = 0) := by rw [hE]; exact up_valid0 HVc.out hup
  have HEt := Lib.hid hE
  have HUt := Lib.hid hup
  obtain ⟨X3, hX⟩ : ∃ B, B = u3.heap.size := ⟨_, rfl⟩
  obtain ⟨U3, hU⟩ : ∃ V, V = u3.alloc (.cells #[.int .i64 f, .slice (some ⟨g3, 0, none⟩) n (n)] 24) := ⟨_, rfl⟩
  have HZ3 := Lib.hid ((HZ2.out.below hb).add (some ⟨g3, 0, none⟩) (n) Lt hls (fun b off e => by cases e; exact hg))
  rw [← hU, ← hX] at HZ3
  have HUE3 := Lib.hid hU
  have HXE3 := Lib.hid hX
  clear a00 a01
  have a00 := Lib.cell_of_heap (HZ3.out.2 (X1, some ⟨g1, 0, none⟩, n, Ls) (.tail _ (.tail _ (.head _)))).1 0
  have a01 := Lib.cell_of_heap (HZ3.out.2 (X1, some ⟨g1, 0, none⟩, n, Ls) (.tail _ (.tail _ (.head _)))).1 1
  rw [hU] at a00 a01
  clear hls hg hb hE HZ2 hU hX hup
  go_wp2_with fail
  rw [← HXE3.out, ← HUE3.out]
  refine (swap_g f (some ⟨g1, 0, none⟩) n (n) Ls U3 (HZ3.out.2 (X1, some ⟨g1, 0, none⟩, n, Ls) (.tail _ (.tail _ (.head _)))).2.1 (HZ3.out.2 (X1, some ⟨g1, 0, none⟩, n, Ls) (.tail _ (.tail _ (.head _)))).2.2 hn1 HVs.out).mono ?_
  rintro e u4 ⟨g4, rfl, hls, hg, hb⟩
  obtain ⟨Lss, hE⟩ : ∃ Y, Y = Ls.map swapL := ⟨_, rfl⟩
  rw [← hE] at hls
  have HVss : Hid (checkE f Lss = 0) := by rw [hE]; exact valid_swap HVs.out
  have HEss := Lib.hid hE
  obtain ⟨X4, hX⟩ : ∃ B, B = u4.heap.size := ⟨_, rfl⟩
  obtain ⟨U4, hU⟩ : ∃ V, V = u4.alloc (.cells #[.int .i64 f, .slice (some ⟨g4, 0, none⟩) n (n)] 24) := ⟨_, rfl⟩
  have HZ4 := Lib.hid ((HZ3.out.below hb).add (some ⟨g4, 0, none⟩) (n) Lss hls (fun b off e => by cases e; exact hg))
  rw [← hU, ← hX] at HZ4
  have HUE4 := Lib.hid hU
  have HXE4 := Lib.hid hX
  clear a00 a01
  have a00 := Lib.cell_of_heap (HZ4.out.2 (X2, some ⟨g2, 0, none⟩, n, Lm) (.tail _ (.tail _ (.head _)))).1 0
  have a01 := Lib.cell_of_heap (HZ4.out.2 (X2, some ⟨g2, 0, none⟩, n, Lm) (.tail _ (.tail _ (.head _)))).1 1
  rw [hU] at a00 a01
  clear hls hg hb hE HZ3 hU hX
  go_wp2_with fail
  rw [← HXE4.out, ← HUE4.out]
  refine (mirror_g f (some ⟨g2, 0, none⟩) n (n) Lm U4 (HZ4.out.2 (X2, some ⟨g2, 0, none⟩, n, Lm) (.tail _ (.tail _ (.head _)))).2.1 (HZ4.out.2 (X2, some ⟨g2, 0, none⟩, n, Lm) (.tail _ (.tail _ (.head _)))).2.2 hn1 HVm.out).mono ?_
  rintro e u5 ⟨g5, rfl, hls, hg, hb⟩
  obtain ⟨Lmm, hE⟩ : ∃ Y, Y = Lm.map (mirL f Lm) := ⟨_, rfl⟩
  rw [← hE] at hls
  have HVmm : Hid (checkE f Lmm = 0) := by rw [hE]; exact valid_mirror HVm.out
  have HEmm := Lib.hid hE
  obtain ⟨X5, hX⟩ : ∃ B, B = u5.heap.size := ⟨_, rfl⟩
  obtain ⟨U5, hU⟩ : ∃ V, V = u5.alloc (.cells #[.int .i64 f, .slice (some ⟨g5, 0, none⟩) n (n)] 24) := ⟨_, rfl⟩
  have HZ5 := Lib.hid ((HZ4.out.below hb).add (some ⟨g5, 0, none⟩) (n) Lmm hls (fun b off e => by cases e; exact hg))
  rw [← hU, ← hX] at HZ5
  have HUE5 := Lib.hid hU
  have HXE5 := Lib.hid hX
  clear a00 a01
  have a00 := Lib.cell_of_heap (HZ5.out.2 (X3, some ⟨g3, 0, none⟩, n, Lt) (.tail _ (.tail _ (.head _)))).1 0
  have a01 := Lib.cell_of_heap (HZ5.out.2 (X3, some ⟨g3, 0, none⟩, n, Lt) (.tail _ (.tail _ (.head _)))).1 1
  rw [hU] at a00 a01
  clear hls hg hb hE HZ4 hU hX
  go_wp2_with fail
  rw [← HXE5.out, ← HUE5.out]
  refine (turn_g f (some ⟨g3, 0, none⟩) n (n) Lt U5 (HZ5.out.2 (X3, some ⟨g3, 0, none⟩, n, Lt) (.tail _ (.tail _ (.head _)))).2.1 (HZ5.out.2 (X3, some ⟨g3, 0, none⟩, n, Lt) (.tail _ (.tail _ (.head _)))).2.2 hn1 HVt.out).mono ?_
  rintro e u6 ⟨r6, hup, g6, rfl, hls, hg, hb⟩
  obtain ⟨Ltt, hE⟩ : ∃ Y, Y = followL (Lt.map otherL) (r6 : Int) 1 := ⟨_, rfl⟩
  rw [← hE] at hls
  have HVtt : Hid (checkE f Ltt = 0) := by rw [hE]; exact up_valid0 HVt.out hup
  have HEtt := Lib.hid hE
  have HUtt := Lib.hid hup
  obtain ⟨X6, hX⟩ : ∃ B, B = u6.heap.size := ⟨_, rfl⟩
  obtain ⟨U6, hU⟩ : ∃ V, V = u6.alloc (.cells #[.int .i64 f, .slice (some ⟨g6, 0, none⟩) n (n)] 24) := ⟨_, rfl⟩
  have HZ6 := Lib.hid ((HZ5.out.below hb).add (some ⟨g6, 0, none⟩) (n) Ltt hls (fun b off e => by cases e; exact hg))
  rw [← hU, ← hX] at HZ6
  have HUE6 := Lib.hid hU
  have HXE6 := Lib.hid hX
  clear a00 a01
  have a00 := Lib.cell_of_heap (HZ6.out.2 (X1, some ⟨g1, 0, none⟩, n, Ls) (.tail _ (.tail _ (.tail _ (.tail _ (.tail _ (.head _))))))).1 0
  have a01 := Lib.cell_of_heap (HZ6.out.2 (X1, some ⟨g1, 0, none⟩, n, Ls) (.tail _ (.tail _ (.tail _ (.tail _ (.tail _ (.head _))))))).1 1
  rw [hU] at a00 a01
  clear hls hg hb hE HZ5 hU hX hup
  go_wp2_with fail
  rw [← HXE6.out, ← HUE6.out]
  refine (mirror_g f (some ⟨g1, 0, none⟩) n (n) Ls U6 (HZ6.out.2 (X1, some ⟨g1, 0, none⟩, n, Ls) (.tail _ (.tail _ (.tail _ (.tail _ (.tail _ (.head _))))))).2.1 (HZ6.out.2 (X1, some ⟨g1, 0, none⟩, n, Ls) (.tail _ (.tail _ (.tail _ (.tail _ (.tail _ (.head _))))))).2.2 hn1 HVs.out).mono ?_
  rintro e u7 ⟨g7, rfl, hls, hg, hb⟩
  obtain ⟨Lsm, hE⟩ : ∃ Y, Y = Ls.map (mirL f Ls) := ⟨_, rfl⟩
  rw [← hE] at hls
  have HVsm : Hid (checkE f Lsm = 0) := by rw [hE]; exact valid_mirror HVs.out
  have HEsm := Lib.hid hE
  obtain ⟨X7, hX⟩ : ∃ B, B = u7.heap.size := ⟨_, rfl⟩
  obtain ⟨U7, hU⟩ : ∃ V, V = u7.alloc (.cells #[.int .i64 f, .slice (some ⟨g7, 0, none⟩) n (n)] 24) := ⟨_, rfl⟩
  have HZ7 := Lib.hid ((HZ6.out.below hb).add (some ⟨g7, 0, none⟩) (n) Lsm hls (fun b off e => by cases e; exact hg))
  rw [← hU, ← hX] at HZ7
  have HUE7 := Lib.hid hU
  have HXE7 := Lib.hid hX
  clear a00 a01
  have a00 := Lib.cell_of_heap (HZ7.out.2 (X2, some ⟨g2, 0, none⟩, n, Lm) (.tail _ (.tail _ (.tail _ (.tail _ (.tail _ (.head _))))))).1 0
  have a01 := Lib.cell_of_heap (HZ7.out.2 (X2, some ⟨g2, 0, none⟩, n, Lm) (.tail _ (.tail _ (.tail _ (.tail _ (.tail _ (.head _))))))).1 1
  rw [hU] at a00 a01
  clear hls hg hb hE HZ6 hU hX
  go_wp2_with fail
  rw [← HXE7.out, ← HUE7.out]
  refine (swap_g f (some ⟨g2, 0, none⟩) n (n) Lm U7 (HZ7.out.2 (X2, some ⟨g2, 0, none⟩, n, Lm) (.tail _ (.tail _ (.tail _ (.tail _ (.tail _ (.head _))))))).2.1 (HZ7.out.2 (X2, some ⟨g2, 0, none⟩, n, Lm) (.tail _ (.tail _ (.tail _ (.tail _ (.tail _ (.head _))))))).2.2 hn1 HVm.out).mono ?_
  rintro e u8 ⟨g8, rfl, hls, hg, hb⟩
  obtain ⟨Lms, hE⟩ : ∃ Y, Y = Lm.map swapL := ⟨_, rfl⟩
  rw [← hE] at hls
  have HVms : Hid (checkE f Lms = 0) := by rw [hE]; exact valid_swap HVm.out
  have HEms := Lib.hid hE
  obtain ⟨X8, hX⟩ : ∃ B, B = u8.heap.size := ⟨_, rfl⟩
  obtain ⟨U8, hU⟩ : ∃ V, V = u8.alloc (.cells #[.int .i64 f, .slice (some ⟨g8, 0, none⟩) n (n)] 24) := ⟨_, rfl⟩
  have HZ8 := Lib.hid ((HZ7.out.below hb).add (some ⟨g8, 0, none⟩) (n) Lms hls (fun b off e => by cases e; exact hg))
  rw [← hU, ← hX] at HZ8
  have HUE8 := Lib.hid hU
  have HXE8 := Lib.hid hX
  clear a00 a01
  have a00 := Lib.cell_of_heap (HZ8.out.2 (X1, some ⟨g1, 0, none⟩, n, Ls) (.tail _ (.tail _ (.tail _ (.tail _ (.tail _ (.tail _ (.tail _ (.head _))))))))).1 0
  have a01 := Lib.cell_of_heap (HZ8.out.2 (X1, some ⟨g1, 0, none⟩, n, Ls) (.tail _ (.tail _ (.tail _ (.tail _ (.tail _ (.tail _ (.tail _ (.head _))))))))).1 1
  rw [hU] at a00 a01
  clear hls hg hb hE HZ7 hU hX
  go_wp2_with fail
  rw [← HXE8.out, ← HUE8.out]
  refine (turn_g f (some ⟨g1, 0, none⟩) n (n) Ls U8 (HZ8.out.2 (X1, some ⟨g1, 0, none⟩, n, Ls) (.tail _ (.tail _ (.tail _ (.tail _ (.tail _ (.tail _ (.tail _ (.head _))))))))).2.1 (HZ8.out.2 (X1, some ⟨g1, 0, none⟩, n, Ls) (.tail _ (.tail _ (.tail _ (.tail _ (.tail _ (.tail _ (.tail _ (.head _))))))))).2.2 hn1 HVs.out).mono ?_
  rintro e u9 ⟨r9, hup, g9, rfl, hls, hg, hb⟩
  obtain ⟨Lst, hE⟩ : ∃ Y, Y = followL (Ls.map otherL) (r9 : Int) 1 := ⟨_, rfl⟩
  rw [← hE] at hls
  have HVst : Hid (checkE f Lst = 0) := by rw [hE]; exact up_valid0 HVs.out hup
  have HEst := Lib.hid hE
  have HUst := Lib.hid hup
  obtain ⟨X9, hX⟩ : ∃ B, B = u9.heap.size := ⟨_, rfl⟩
  obtain ⟨U9, hU⟩ : ∃ V, V = u9.alloc (.cells #[.int .i64 f, .slice (some ⟨g9, 0, none⟩) n (n)] 24) := ⟨_, rfl⟩
  have HZ9 := Lib.hid ((HZ8.out.below hb).add (some ⟨g9, 0, none⟩) (n) Lst hls (fun b off e => by cases e; exact hg))
  rw [← hU, ← hX] at HZ9
  have HUE9 := Lib.hid hU
  have HXE9 := Lib.hid hX
  clear a00 a01
  have a00 := Lib.cell_of_heap (HZ9.out.2 (X3, some ⟨g3, 0, none⟩, n, Lt) (.tail _ (.tail _ (.tail _ (.tail _ (.tail _ (.tail _ (.head _)))))))).1 0
  have a01 := Lib.cell_of_heap (HZ9.out.2 (X3, some ⟨g3, 0, none⟩, n, Lt) (.tail _ (.tail _ (.tail _ (.tail _ (.tail _ (.tail _ (.head _)))))))).1 1
  rw [hU] at a00 a01
  clear hls hg hb hE HZ8 hU hX hup
  go_wp2_with fail
  rw [← HXE9.out, ← HUE9.out]
  refine (swap_g f (some ⟨g3, 0, none⟩) n (n) Lt U9 (HZ9.out.2 (X3, some ⟨g3, 0, none⟩, n, Lt) (.tail _ (.tail _ (.tail _ (.tail _ (.tail _ (.tail _ (.head _)))))))).2.1 (HZ9.out.2 (X3, some ⟨g3, 0, none⟩, n, Lt) (.tail _ (.tail _ (.tail _ (.tail _ (.tail _ (.tail _ (.head _)))))))).2.2 hn1 HVt.out).mono ?_
  rintro e u10 ⟨g10, rfl, hls, hg, hb⟩
  obtain ⟨Lts, hE⟩ : ∃ Y, Y = Lt.map swapL := ⟨_, rfl⟩
  rw [← hE] at hls
  have HVts : Hid (checkE f Lts = 0) := by rw [hE]; exact valid_swap HVt.out
  have HEts := Lib.hid hE
  obtain ⟨X10, hX⟩ : ∃ B, B = u10.heap.size := ⟨_, rfl⟩
  obtain ⟨U10, hU⟩ : ∃ V, V = u10.alloc (.cells #[.int .i64 f, .slice (some ⟨g10, 0, none⟩) n (n)] 24) := ⟨_, rfl⟩
  have HZ10 := Lib.hid ((HZ9.out.below hb).add (some ⟨g10, 0, none⟩) (n) Lts hls (fun b off e => by cases e; exact hg))
  rw [← hU, ← hX] at HZ10
  have HUE10 := Lib.hid hU
  have HXE10 := Lib.hid hX
  clear a00 a01
  have a00 := Lib.cell_of_heap (HZ10.out.2 (X2, some ⟨g2, 0, none⟩, n, Lm) (.tail _ (.tail _ (.tail _ (.tail _ (.tail _ (.tail _ (.tail _ (.tail _ (.head _)))))))))).1 0
  have a01 := Lib.cell_of_heap (HZ10.out.2 (X2, some ⟨g2, 0, none⟩, n, Lm) (.tail _ (.tail _ (.tail _ (.tail _ (.tail _ (.tail _ (.tail _ (.tail _ (.head _)))))))))).1 1
  rw [hU] at a00 a01
  clear hls hg hb hE HZ9 hU hX
  go_wp2_with fail
  rw [← HXE10.out, ← HUE10.out]
  refine (turn_g f (some ⟨g2, 0, none⟩) n (n) Lm U10 (HZ10.out.2 (X2, some ⟨g2, 0, none⟩, n, Lm) (.tail _ (.tail _ (.tail _ (.tail _ (.tail _ (.tail _ (.tail _ (.tail _ (.head _)))))))))).2.1 (HZ10.out.2 (X2, some ⟨g2, 0, none⟩, n, Lm) (.tail _ (.tail _ (.tail _ (.tail _ (.tail _ (.tail _ (.tail _ (.tail _ (.head _)))))))))).2.2 hn1 HVm.out).mono ?_
  rintro e u11 ⟨r11, hup, g11, rfl, hls, hg, hb⟩
  obtain ⟨Lmt, hE⟩ : ∃ Y, Y = followL (Lm.map otherL) (r11 : Int) 1 := ⟨_, rfl⟩
  rw [← hE] at hls
  have HVmt : Hid (checkE f Lmt = 0) := by rw [hE]; exact up_valid0 HVm.out hup
  have HEmt := Lib.hid hE
  have HUmt := Lib.hid hup
  obtain ⟨X11, hX⟩ : ∃ B, B = u11.heap.size := ⟨_, rfl⟩
  obtain ⟨U11, hU⟩ : ∃ V, V = u11.alloc (.cells #[.int .i64 f, .slice (some ⟨g11, 0, none⟩) n (n)] 24) := ⟨_, rfl⟩
  have HZ11 := Lib.hid ((HZ10.out.below hb).add (some ⟨g11, 0, none⟩) (n) Lmt hls (fun b off e => by cases e; exact hg))
  rw [← hU, ← hX] at HZ11
  have HUE11 := Lib.hid hU
  have HXE11 := Lib.hid hX
  clear a00 a01
  have a00 := Lib.cell_of_heap (HZ11.out.2 (X3, some ⟨g3, 0, none⟩, n, Lt) (.tail _ (.tail _ (.tail _ (.tail _ (.tail _ (.tail _ (.tail _ (.tail _ (.head _)))))))))).1 0
  have a01 := Lib.cell_of_heap (HZ11.out.2 (X3, some ⟨g3, 0, none⟩, n, Lt) (.tail _ (.tail _ (.tail _ (.tail _ (.tail _ (.tail _ (.tail _ (.tail _ (.head _)))))))))).1 1
  rw [hU] at a00 a01
  clear hls hg hb hE HZ10 hU hX hup
  go_wp2_with fail
  rw [← HXE11.out, ← HUE11.out]
  refine (mirror_g f (some ⟨g3, 0, none⟩) n (n) Lt U11 (HZ11.out.2 (X3, some ⟨g3, 0, none⟩, n, Lt) (.tail _ (.tail _ (.tail _ (.tail _ (.tail _ (.tail _ (.tail _ (.tail _ (.head _)))))))))).2.1 (HZ11.out.2 (X3, some ⟨g3, 0, none⟩, n, Lt) (.tail _ (.tail _ (.tail _ (.tail _ (.tail _ (.tail _ (.tail _ (.tail _ (.head _)))))))))).2.2 hn1 HVt.out).mono ?_
  rintro e u12 ⟨g12, rfl, hls, hg, hb⟩
  obtain ⟨Ltm, hE⟩ : ∃ Y, Y = Lt.map (mirL f Lt) := ⟨_, rfl⟩
  rw [← hE] at hls
  have HVtm : Hid (checkE f Ltm = 0) := by rw [hE]; exact valid_mirror HVt.out
  have HEtm := Lib.hid hE
  obtain ⟨X12, hX⟩ : ∃ B, B = u12.heap.size := ⟨_, rfl⟩
  obtain ⟨U12, hU⟩ : ∃ V, V = u12.alloc (.cells #[.int .i64 f, .slice (some ⟨g12, 0, none⟩) n (n)] 24) := ⟨_, rfl⟩
  have HZ12 := Lib.hid ((HZ11.out.below hb).add (some ⟨g12, 0, none⟩) (n) Ltm hls (fun b off e => by cases e; exact hg))
  rw [← hU, ← hX] at HZ12
  have HUE12 := Lib.hid hU
  have HXE12 := Lib.hid hX
  clear a00 a01
  have a00 := Lib.cell_of_heap (HZ12.out.2 (X1, some ⟨g1, 0, none⟩, n, Ls) (.tail _ (.tail _ (.tail _ (.tail _ (.tail _ (.tail _ (.tail _ (.tail _ (.tail _ (.tail _ (.tail _ (.head _))))))))))))).1 0
  have a01 := Lib.cell_of_heap (HZ12.out.2 (X1, some ⟨g1, 0, none⟩, n, Ls) (.tail _ (.tail _ (.tail _ (.tail _ (.tail _ (.tail _ (.tail _ (.tail _ (.tail _ (.tail _ (.tail _ (.head _))))))))))))).1 1
  rw [hU] at a00 a01
  clear hls hg hb hE HZ11 hU hX
  go_wp2_with fail
  rw [← HXE12.out, ← HUE12.out]
  refine (chkG HVs.out (HZ12.out.2 (X1, some ⟨g1, 0, none⟩, n, Ls) (.tail _ (.tail _ (.tail _ (.tail _ (.tail _ (.tail _ (.tail _ (.tail _ (.tail _ (.tail _ (.tail _ (.head _))))))))))))).2.1 (HZ12.out.2 (X1, some ⟨g1, 0, none⟩, n, Ls) (.tail _ (.tail _ (.tail _ (.tail _ (.tail _ (.tail _ (.tail _ (.tail _ (.tail _ (.tail _ (.tail _ (.head _))))))))))))).2.2 _ (Below.refl _ _)).mono ?_
  rintro e U13 ⟨rfl, hb⟩
  have HZ13 := Lib.hid (HZ12.out.below hb)
  clear hb HZ12 a00 a01
  have a00 := Lib.cell_of_heap (HZ13.out.2 (X2, some ⟨g2, 0, none⟩, n, Lm) (.tail _ (.tail _ (.tail _ (.tail _ (.tail _ (.tail _ (.tail _ (.tail _ (.tail _ (.tail _ (.head _)))))))))))).1 0
  have a01 := Lib.cell_of_heap (HZ13.out.2 (X2, some ⟨g2, 0, none⟩, n, Lm) (.tail _ (.tail _ (.tail _ (.tail _ (.tail _ (.tail _ (.tail _ (.tail _ (.tail _ (.tail _ (.head _)))))))))))).1 1
  go_wp2_with fail
  refine (chkG HVm.out (HZ13.out.2 (X2, some ⟨g2, 0, none⟩, n, Lm) (.tail _ (.tail _ (.tail _ (.tail _ (.tail _ (.tail _ (.tail _ (.tail _ (.tail _ (.tail _ (.head _)))))))))))).2.1 (HZ13.out.2 (X2, some ⟨g2, 0, none⟩, n, Lm) (.tail _ (.tail _ (.tail _ (.tail _ (.tail _ (.tail _ (.tail _ (.tail _ (.tail _ (.tail _ (.head _)))))))))))).2.2 _ (Below.refl _ _)).mono ?_
  rintro e U14 ⟨rfl, hb⟩
  have HZ14 := Lib.hid (HZ13.out.below hb)
  clear hb HZ13 a00 a01
  have a00 := Lib.cell_of_heap (HZ14.out.2 (X3, some ⟨g3, 0, none⟩, n, Lt) (.tail _ (.tail _ (.tail _ (.tail _ (.tail _ (.tail _ (.tail _ (.tail _ (.tail _ (.head _))))))))))).1 0
  have a01 := Lib.cell_of_heap (HZ14.out.2 (X3, some ⟨g3, 0, none⟩, n, Lt) (.tail _ (.tail _ (.tail _ (.tail _ (.tail _ (.tail _ (.tail _ (.tail _ (.tail _ (.head _))))))))))).1 1
  go_wp2_with fail
  refine (chkG HVt.out (HZ14.out.2 (X3, some ⟨g3, 0, none⟩, n, Lt) (.tail _ (.tail _ (.tail _ (.tail _ (.tail _ (.tail _ (.tail _ (.tail _ (.tail _ (.head _))))))))))).2.1 (HZ14.out.2 (X3, some ⟨g3, 0, none⟩, n, Lt) (.tail _ (.tail _ (.tail _ (.tail _ (.tail _ (.tail _ (.tail _ (.tail _ (.tail _ (.head _))))))))))).2.2 _ (Below.refl _ _)).mono ?_
  rintro e U15 ⟨rfl, hb⟩
  have HZ15 := Lib.hid (HZ14.out.below hb)
  clear hb HZ14 a00 a01
  have a00 := Lib.cell_of_heap (HZ15.out.2 (P, A, c, ls) (.tail _ (.tail _ (.tail _ (.tail _ (.tail _ (.tail _ (.tail _ (.tail _ (.tail _ (.tail _ (.tail _ (.tail _ (.head _)))))))))))))).1 0
  have a01 := Lib.cell_of_heap (HZ15.out.2 (P, A, c, ls) (.tail _ (.tail _ (.tail _ (.tail _ (.tail _ (.tail _ (.tail _ (.tail _ (.tail _ (.tail _ (.tail _ (.tail _ (.head _)))))))))))))).1 1
  go_wp2_with fail
  refine (normal_g f (A) n (c) ls U15 (HZ15.out.2 (P, A, c, ls) (.tail _ (.tail _ (.tail _ (.tail _ (.tail _ (.tail _ (.tail _ (.tail _ (.tail _ (.tail _ (.tail _ (.tail _ (.head _)))))))))))))).2.1 (HZ15.out.2 (P, A, c, ls) (.tail _ (.tail _ (.tail _ (.tail _ (.tail _ (.tail _ (.tail _ (.tail _ (.tail _ (.tail _ (.tail _ (.tail _ (.head _)))))))))))))).2.2 HVc.out).mono ?_
  rintro e u16 ⟨g16, c16, rfl, hls, hg, hb⟩
  obtain ⟨Ln, hE⟩ : ∃ Y, Y = normL f ls := ⟨_, rfl⟩
  rw [← hE] at hls
  have HVn : Hid (checkE f Ln = 0) := by rw [hE]; exact valid_norm HVc.out
  have HEn := Lib.hid hE
  obtain ⟨X16, hX⟩ : ∃ B, B = u16.heap.size := ⟨_, rfl⟩
  obtain ⟨U16, hU⟩ : ∃ V, V = u16.alloc (.cells #[.int .i64 f, .slice (g16) n (c16)] 24) := ⟨_, rfl⟩
  have HZ16 := Lib.hid ((HZ15.out.below hb).add (g16) (c16) Ln hls hg)
  rw [← hU, ← hX] at HZ16
  have HUE16 := Lib.hid hU
  have HXE16 := Lib.hid hX
  clear a00 a01
  have a00 := Lib.cell_of_heap (HZ16.out.2 (X16, g16, c16, Ln) (.head _)).1 0
  have a01 := Lib.cell_of_heap (HZ16.out.2 (X16, g16, c16, Ln) (.head _)).1 1
  rw [hU] at a00 a01
  clear hls hg hb hE HZ15 hU hX
  go_wp2_with fail
  rw [← HXE16.out, ← HUE16.out]
  refine (swap_g f (g16) n (c16) Ln U16 (HZ16.out.2 (X16, g16, c16, Ln) (.head _)).2.1 (HZ16.out.2 (X16, g16, c16, Ln) (.head _)).2.2 hn1 HVn.out).mono ?_
  rintro e u17 ⟨g17, rfl, hls, hg, hb⟩
  obtain ⟨Lns, hE⟩ : ∃ Y, Y = Ln.map swapL := ⟨_, rfl⟩
  rw [← hE] at hls
  have HVns : Hid (checkE f Lns = 0) := by rw [hE]; exact valid_swap HVn.out
  have HEns := Lib.hid hE
  obtain ⟨X17, hX⟩ : ∃ B, B = u17.heap.size := ⟨_, rfl⟩
  obtain ⟨U17, hU⟩ : ∃ V, V = u17.alloc (.cells #[.int .i64 f, .slice (some ⟨g17, 0, none⟩) n (n)] 24) := ⟨_, rfl⟩
  have HZ17 := Lib.hid ((HZ16.out.below hb).add (some ⟨g17, 0, none⟩) (n) Lns hls (fun b off e => by cases e; exact hg))
  rw [← hU, ← hX] at HZ17
  have HUE17 := Lib.hid hU
  have HXE17 := Lib.hid hX
  clear a00 a01
  have a00 := Lib.cell_of_heap (HZ17.out.2 (X16, g16, c16, Ln) (.tail _ (.head _))).1 0
  have a01 := Lib.cell_of_heap (HZ17.out.2 (X16, g16, c16, Ln) (.tail _ (.head _))).1 1
  rw [hU] at a00 a01
  clear hls hg hb hE HZ16 hU hX
  go_wp2_with fail
  rw [← HXE17.out, ← HUE17.out]
  refine (mirror_g f (g16) n (c16) Ln U17 (HZ17.out.2 (X16, g16, c16, Ln) (.tail _ (.head _))).2.1 (HZ17.out.2 (X16, g16, c16, Ln) (.tail _ (.head _))).2.2 hn1 HVn.out).mono ?_
  rintro e u18 ⟨g18, rfl, hls, hg, hb⟩
  obtain ⟨Lnm, hE⟩ : ∃ Y, Y = Ln.map (mirL f Ln) := ⟨_, rfl⟩
  rw [← hE] at hls
  have HVnm : Hid (checkE f Lnm = 0) := by rw [hE]; exact valid_mirror HVn.out
  have HEnm := Lib.hid hE
  obtain ⟨X18, hX⟩ : ∃ B, B = u18.heap.size := ⟨_, rfl⟩
  obtain ⟨U18, hU⟩ : ∃ V, V = u18.alloc (.cells #[.int .i64 f, .slice (some ⟨g18, 0, none⟩) n (n)] 24) := ⟨_, rfl⟩
  have HZ18 := Lib.hid ((HZ17.out.below hb).add (some ⟨g18, 0, none⟩) (n) Lnm hls (fun b off e => by cases e; exact hg))
  rw [← hU, ← hX] at HZ18
  have HUE18 := Lib.hid hU
  have HXE18 := Lib.hid hX
  clear a00 a01
  have a00 := Lib.cell_of_heap (HZ18.out.2 (X16, g16, c16, Ln) (.tail _ (.tail _ (.head _)))).1 0
  have a01 := Lib.cell_of_heap (HZ18.out.2 (X16, g16, c16, Ln) (.tail _ (.tail _ (.head _)))).1 1
  rw [hU] at a00 a01
  clear hls hg hb hE HZ17 hU hX
  go_wp2_with fail
  rw [← HXE18.out, ← HUE18.out]
  refine (turn_g f (g16) n (c16) Ln U18 (HZ18.out.2 (X16, g16, c16, Ln) (.tail _ (.tail _ (.head _)))).2.1 (HZ18.out.2 (X16, g16, c16, Ln) (.tail _ (.tail _ (.head _)))).2.2 hn1 HVn.out).mono ?_
  rintro e u19 ⟨r19, hup, g19, rfl, hls, hg, hb⟩
  obtain ⟨Lnt, hE⟩ : ∃ Y, Y = followL (Ln.map otherL) (r19 : Int) 1 := ⟨_, rfl⟩
  rw [← hE] at hls
  have HVnt : Hid (checkE f Lnt = 0) := by rw [hE]; exact up_valid0 HVn.out hup
  have HEnt := Lib.hid hE
  have HUnt := Lib.hid hup
  obtain ⟨X19, hX⟩ : ∃ B, B = u19.heap.size := ⟨_, rfl⟩
  obtain ⟨U19, hU⟩ : ∃ V, V = u19.alloc (.cells #[.int .i64 f, .slice (some ⟨g19, 0, none⟩) n (n)] 24) := ⟨_, rfl⟩
  have HZ19 := Lib.hid ((HZ18.out.below hb).add (some ⟨g19, 0, none⟩) (n) Lnt hls (fun b off e => by cases e; exact hg))
  rw [← hU, ← hX] at HZ19
  have HUE19 := Lib.hid hU
  have HXE19 := Lib.hid hX
  clear a00 a01
  have a00 := Lib.cell_of_heap (HZ19.out.2 (X4, some ⟨g4, 0, none⟩, n, Lss) (.tail _ (.tail _ (.tail _ (.tail _ (.tail _ (.tail _ (.tail _ (.tail _ (.tail _ (.tail _ (.tail _ (.tail _ (.head _)))))))))))))).1 0
  have a01 := Lib.cell_of_heap (HZ19.out.2 (X4, some ⟨g4, 0, none⟩, n, Lss) (.tail _ (.tail _ (.tail _ (.tail _ (.tail _ (.tail _ (.tail _ (.tail _ (.tail _ (.tail _ (.tail _ (.tail _ (.head _)))))))))))))).1 1
  rw [hU] at a00 a01
  have a10 := Lib.cell_of_heap (HZ19.out.2 (P, A, c, ls) (.tail _ (.tail _ (.tail _ (.tail _ (.tail _ (.tail _ (.tail _ (.tail _ (.tail _ (.tail _ (.tail _ (.tail _ (.tail _ (.tail _ (.tail _ (.tail _ (.head _)))))))))))))))))).1 0
  have a11 := Lib.cell_of_heap (HZ19.out.2 (P, A, c, ls) (.tail _ (.tail _ (.tail _ (.tail _ (.tail _ (.tail _ (.tail _ (.tail _ (.tail _ (.tail _ (.tail _ (.tail _ (.tail _ (.tail _ (.tail _ (.tail _ (.head _)))))))))))))))))).1 1
  rw [hU] at a10 a11
  clear hls hg hb hE HZ18 hU hX hup
  go_wp2_with fail
  rw [← HXE19.out, ← HUE19.out]
  refine (codeEq_yes f (some ⟨g4, 0, none⟩) (A) n n (n) (c) ls U19 (by have h := (HZ19.out.2 (X4, some ⟨g4, 0, none⟩, n, Lss) (.tail _ (.tail _ (.tail _ (.tail _ (.tail _ (.tail _ (.tail _ (.tail _ (.tail _ (.tail _ (.tail _ (.tail _ (.head _)))))))))))))).2.1; rw [show Lss = ls from HEss.out.trans (by rw [HEs.out]; exact swap_swap HVc.out)] at h; exact h) (HZ19.out.2 (P, A, c, ls) (.tail _ (.tail _ (.tail _ (.tail _ (.tail _ (.tail _ (.tail _ (.tail _ (.tail _ (.tail _ (.tail _ (.tail _ (.tail _ (.tail _ (.tail _ (.tail _ (.head _)))))))))))))))))).2.1 hle).mono ?_
  rintro e U20 ⟨rfl, hb⟩
  have HZ20 := Lib.hid (HZ19.out.below hb)
  clear hb HZ19 a00 a01 a10 a11
  have a00 := Lib.cell_of_heap (HZ20.out.2 (X5, some ⟨g5, 0, none⟩, n, Lmm) (.tail _ (.tail _ (.tail _ (.tail _ (.tail _ (.tail _ (.tail _ (.tail _ (.tail _ (.tail _ (.tail _ (.head _))))))))))))).1 0
  have a01 := Lib.cell_of_heap (HZ20.out.2 (X5, some ⟨g5, 0, none⟩, n, Lmm) (.tail _ (.tail _ (.tail _ (.tail _ (.tail _ (.tail _ (.tail _ (.tail _ (.tail _ (.tail _ (.tail _ (.head _))))))))))))).1 1
  have a10 := Lib.cell_of_heap (HZ20.out.2 (P, A, c, ls) (.tail _ (.tail _ (.tail _ (.tail _ (.tail _ (.tail _ (.tail _ (.tail _ (.tail _ (.tail _ (.tail _ (.tail _ (.tail _ (.tail _ (.tail _ (.tail _ (.head _)))))))))))))))))).1 0
  have a11 := Lib.cell_of_heap (HZ20.out.2 (P, A, c, ls) (.tail _ (.tail _ (.tail _ (.tail _ (.tail _ (.tail _ (.tail _ (.tail _ (.tail _ (.tail _ (.tail _ (.tail _ (.tail _ (.tail _ (.tail _ (.tail _ (.head _)))))))))))))))))).1 1
  go_wp2_with fail
  refine (codeEq_yes f (some ⟨g5, 0, none⟩) (A) n n (n) (c) ls U20 (by have h := (HZ20.out.2 (X5, some ⟨g5, 0, none⟩, n, Lmm) (.tail _ (.tail _ (.tail _ (.tail _ (.tail _ (.tail _ (.tail _ (.tail _ (.tail _ (.tail _ (.tail _ (.head _))))))))))))).2.1; rw [show Lmm = ls from HEmm.out.trans (by rw [HEm.out]; exact mir_mir HVc.out)] at h; exact h) (HZ20.out.2 (P, A, c, ls) (.tail _ (.tail _ (.tail _ (.tail _ (.tail _ (.tail _ (.tail _ (.tail _ (.tail _ (.tail _ (.tail _ (.tail _ (.tail _ (.tail _ (.tail _ (.tail _ (.head _)))))))))))))))))).2.1 hle).mono ?_
  rintro e U21 ⟨rfl, hb⟩
  have HZ21 := Lib.hid (HZ20.out.below hb)
  clear hb HZ20 a00 a01 a10 a11
  have a00 := Lib.cell_of_heap (HZ21.out.2 (X6, some ⟨g6, 0, none⟩, n, Ltt) (.tail _ (.tail _ (.tail _ (.tail _ (.tail _ (.tail _ (.tail _ (.tail _ (.tail _ (.tail _ (.head _)))))))))))).1 0
  have a01 := Lib.cell_of_heap (HZ21.out.2 (X6, some ⟨g6, 0, none⟩, n, Ltt) (.tail _ (.tail _ (.tail _ (.tail _ (.tail _ (.tail _ (.tail _ (.tail _ (.tail _ (.tail _ (.head _)))))))))))).1 1
  have a10 := Lib.cell_of_heap (HZ21.out.2 (P, A, c, ls) (.tail _ (.tail _ (.tail _ (.tail _ (.tail _ (.tail _ (.tail _ (.tail _ (.tail _ (.tail _ (.tail _ (.tail _ (.tail _ (.tail _ (.tail _ (.tail _ (.head _)))))))))))))))))).1 0
  have a11 := Lib.cell_of_heap (HZ21.out.2 (P, A, c, ls) (.tail _ (.tail _ (.tail _ (.tail _ (.tail _ (.tail _ (.tail _ (.tail _ (.tail _ (.tail _ (.tail _ (.tail _ (.tail _ (.tail _ (.tail _ (.tail _ (.head _)))))))))))))))))).1 1
  go_wp2_with fail
  refine (lawEqual_calls f f (some ⟨g6, 0, none⟩) (A) n n (n) (c) (normL f Ltt) (normL f ls) U21 hn1 (lenG HVtt.out (HZ21.out.2 (X6, some ⟨g6, 0, none⟩, n, Ltt) (.tail _ (.tail _ (.tail _ (.tail _ (.tail _ (.tail _ (.tail _ (.tail _ (.tail _ (.tail _ (.head _)))))))))))).2.1.1) (lenG HVc.out (HZ21.out.2 (P, A, c, ls) (.tail _ (.tail _ (.tail _ (.tail _ (.tail _ (.tail _ (.tail _ (.tail _ (.tail _ (.tail _ (.tail _ (.tail _ (.tail _ (.tail _ (.tail _ (.tail _ (.head _)))))))))))))))))).2.1.1) rfl (by rw [HEtt.out, HEt.out]; exact up_twice0 HVc.out HUt.out (by have h := HUtt.out; rw [HEt.out] at h; exact h)) (fun W hW => normal_ok f (some ⟨g6, 0, none⟩) n (n) Ltt W ((HZ21.out.below hW).2 (X6, some ⟨g6, 0, none⟩, n, Ltt) (.tail _ (.tail _ (.tail _ (.tail _ (.tail _ (.tail _ (.tail _ (.tail _ (.tail _ (.tail _ (.head _)))))))))))).2.1 ((HZ21.out.below hW).2 (X6, some ⟨g6, 0, none⟩, n, Ltt) (.tail _ (.tail _ (.tail _ (.tail _ (.tail _ (.tail _ (.tail _ (.tail _ (.tail _ (.tail _ (.head _)))))))))))).2.2 (idsG HVtt.out) HVtt.out) (fun W hW => normal_ok f (A) n (c) ls W ((HZ21.out.below hW).2 (P, A, c, ls) (.tail _ (.tail _ (.tail _ (.tail _ (.tail _ (.tail _ (.tail _ (.tail _ (.tail _ (.tail _ (.tail _ (.tail _ (.tail _ (.tail _ (.tail _ (.tail _ (.head _)))))))))))))))))).2.1 ((HZ21.out.below hW).2 (P, A, c, ls) (.tail _ (.tail _ (.tail _ (.tail _ (.tail _ (.tail _ (.tail _ (.tail _ (.tail _ (.tail _ (.tail _ (.tail _ (.tail _ (.tail _ (.tail _ (.tail _ (.head _)))))))))))))))))).2.2 (idsG HVc.out) HVc.out)).mono ?_
  rintro e U22 ⟨rfl, hb⟩
  have HZ22 := Lib.hid (HZ21.out.below hb)
  clear hb HZ21 a00 a01 a10 a11
  have a00 := Lib.cell_of_heap (HZ22.out.2 (X7, some ⟨g7, 0, none⟩, n, Lsm) (.tail _ (.tail _ (.tail _ (.tail _ (.tail _ (.tail _ (.tail _ (.tail _ (.tail _ (.head _))))))))))).1 0
  have a01 := Lib.cell_of_heap (HZ22.out.2 (X7, some ⟨g7, 0, none⟩, n, Lsm) (.tail _ (.tail _ (.tail _ (.tail _ (.tail _ (.tail _ (.tail _ (.tail _ (.tail _ (.head _))))))))))).1 1
  have a10 := Lib.cell_of_heap (HZ22.out.2 (X8, some ⟨g8, 0, none⟩, n, Lms) (.tail _ (.tail _ (.tail _ (.tail _ (.tail _ (.tail _ (.tail _ (.tail _ (.head _)))))))))).1 0
  have a11 := Lib.cell_of_heap (HZ22.out.2 (X8, some ⟨g8, 0, none⟩, n, Lms) (.tail _ (.tail _ (.tail _ (.tail _ (.tail _ (.tail _ (.tail _ (.tail _ (.head _)))))))))).1 1
  go_wp2_with fail
  refine (lawEqual_calls f f (some ⟨g7, 0, none⟩) (some ⟨g8, 0, none⟩) n n (n) (n) (normL f Lsm) (normL f Lms) U22 hn1 (lenG HVsm.out (HZ22.out.2 (X7, some ⟨g7, 0, none⟩, n, Lsm) (.tail _ (.tail _ (.tail _ (.tail _ (.tail _ (.tail _ (.tail _ (.tail _ (.tail _ (.head _))))))))))).2.1.1) (lenG HVms.out (HZ22.out.2 (X8, some ⟨g8, 0, none⟩, n, Lms) (.tail _ (.tail _ (.tail _ (.tail _ (.tail _ (.tail _ (.tail _ (.tail _ (.head _)))))))))).2.1.1) rfl (by rw [HEsm.out, HEms.out, HEs.out, HEm.out, swap_mir]) (fun W hW => normal_ok f (some ⟨g7, 0, none⟩) n (n) Lsm W ((HZ22.out.below hW).2 (X7, some ⟨g7, 0, none⟩, n, Lsm) (.tail _ (.tail _ (.tail _ (.tail _ (.tail _ (.tail _ (.tail _ (.tail _ (.tail _ (.head _))))))))))).2.1 ((HZ22.out.below hW).2 (X7, some ⟨g7, 0, none⟩, n, Lsm) (.tail _ (.tail _ (.tail _ (.tail _ (.tail _ (.tail _ (.tail _ (.tail _ (.tail _ (.head _))))))))))).2.2 (idsG HVsm.out) HVsm.out) (fun W hW => normal_ok f (some ⟨g8, 0, none⟩) n (n) Lms W ((HZ22.out.below hW).2 (X8, some ⟨g8, 0, none⟩, n, Lms) (.tail _ (.tail _ (.tail _ (.tail _ (.tail _ (.tail _ (.tail _ (.tail _ (.head _)))))))))).2.1 ((HZ22.out.below hW).2 (X8, some ⟨g8, 0, none⟩, n, Lms) (.tail _ (.tail _ (.tail _ (.tail _ (.tail _ (.tail _ (.tail _ (.tail _ (.head _)))))))))).2.2 (idsG HVms.out) HVms.out)).mono ?_
  rintro e U23 ⟨rfl, hb⟩
  have HZ23 := Lib.hid (HZ22.out.below hb)
  clear hb HZ22 a00 a01 a10 a11
  have a00 := Lib.cell_of_heap (HZ23.out.2 (X9, some ⟨g9, 0, none⟩, n, Lst) (.tail _ (.tail _ (.tail _ (.tail _ (.tail _ (.tail _ (.tail _ (.head _))))))))).1 0
  have a01 := Lib.cell_of_heap (HZ23.out.2 (X9, some ⟨g9, 0, none⟩, n, Lst) (.tail _ (.tail _ (.tail _ (.tail _ (.tail _ (.tail _ (.tail _ (.head _))))))))).1 1
  have a10 := Lib.cell_of_heap (HZ23.out.2 (X10, some ⟨g10, 0, none⟩, n, Lts) (.tail _ (.tail _ (.tail _ (.tail _ (.tail _ (.tail _ (.head _)))))))).1 0
  have a11 := Lib.cell_of_heap (HZ23.out.2 (X10, some ⟨g10, 0, none⟩, n, Lts) (.tail _ (.tail _ (.tail _ (.tail _ (.tail _ (.tail _ (.head _)))))))).1 1
  go_wp2_with fail
  refine (lawEqual_calls f f (some ⟨g9, 0, none⟩) (some ⟨g10, 0, none⟩) n n (n) (n) (normL f Lst) (normL f Lts) U23 hn1 (lenG HVst.out (HZ23.out.2 (X9, some ⟨g9, 0, none⟩, n, Lst) (.tail _ (.tail _ (.tail _ (.tail _ (.tail _ (.tail _ (.tail _ (.head _))))))))).2.1.1) (lenG HVts.out (HZ23.out.2 (X10, some ⟨g10, 0, none⟩, n, Lts) (.tail _ (.tail _ (.tail _ (.tail _ (.tail _ (.tail _ (.head _)))))))).2.1.1) rfl (by rw [HEst.out, HEts.out, HEs.out, HEt.out]; exact swap_turn0 HVc.out HUt.out (by have h := HUst.out; rw [HEs.out] at h; exact h)) (fun W hW => normal_ok f (some ⟨g9, 0, none⟩) n (n) Lst W ((HZ23.out.below hW).2 (X9, some ⟨g9, 0, none⟩, n, Lst) (.tail _ (.tail _ (.tail _ (.tail _ (.tail _ (.tail _ (.tail _ (.head _))))))))).2.1 ((HZ23.out.below hW).2 (X9, some ⟨g9, 0, none⟩, n, Lst) (.tail _ (.tail _ (.tail _ (.tail _ (.tail _ (.tail _ (.tail _ (.head _))))))))).2.2 (idsG HVst.out) HVst.out) (fun W hW => normal_ok f (some ⟨g10, 0, none⟩) n (n) Lts W ((HZ23.out.below hW).2 (X10, some ⟨g10, 0, none⟩, n, Lts) (.tail _ (.tail _ (.tail _ (.tail _ (.tail _ (.tail _ (.head _)))))))).2.1 ((HZ23.out.below hW).2 (X10, some ⟨g10, 0, none⟩, n, Lts) (.tail _ (.tail _ (.tail _ (.tail _ (.tail _ (.tail _ (.head _)))))))).2.2 (idsG HVts.out) HVts.out)).mono ?_
  rintro e U24 ⟨rfl, hb⟩
  have HZ24 := Lib.hid (HZ23.out.below hb)
  clear hb HZ23 a00 a01 a10 a11
  have a00 := Lib.cell_of_heap (HZ24.out.2 (X11, some ⟨g11, 0, none⟩, n, Lmt) (.tail _ (.tail _ (.tail _ (.tail _ (.tail _ (.head _))))))).1 0
  have a01 := Lib.cell_of_heap (HZ24.out.2 (X11, some ⟨g11, 0, none⟩, n, Lmt) (.tail _ (.tail _ (.tail _ (.tail _ (.tail _ (.head _))))))).1 1
  have a10 := Lib.cell_of_heap (HZ24.out.2 (X12, some ⟨g12, 0, none⟩, n, Ltm) (.tail _ (.tail _ (.tail _ (.tail _ (.head _)))))).1 0
  have a11 := Lib.cell_of_heap (HZ24.out.2 (X12, some ⟨g12, 0, none⟩, n, Ltm) (.tail _ (.tail _ (.tail _ (.tail _ (.head _)))))).1 1
  go_wp2_with fail
  refine (lawEqual_calls f f (some ⟨g11, 0, none⟩) (some ⟨g12, 0, none⟩) n n (n) (n) (normL f Lmt) (normL f Ltm) U24 hn1 (lenG HVmt.out (HZ24.out.2 (X11, some ⟨g11, 0, none⟩, n, Lmt) (.tail _ (.tail _ (.tail _ (.tail _ (.tail _ (.head _))))))).2.1.1) (lenG HVtm.out (HZ24.out.2 (X12, some ⟨g12, 0, none⟩, n, Ltm) (.tail _ (.tail _ (.tail _ (.tail _ (.head _)))))).2.1.1) rfl (by rw [HEmt.out, HEtm.out, HEm.out, HEt.out]; exact mir_turn0 HVc.out HUt.out (by have h := HUmt.out; rw [HEm.out] at h; exact h)) (fun W hW => normal_ok f (some ⟨g11, 0, none⟩) n (n) Lmt W ((HZ24.out.below hW).2 (X11, some ⟨g11, 0, none⟩, n, Lmt) (.tail _ (.tail _ (.tail _ (.tail _ (.tail _ (.head _))))))).2.1 ((HZ24.out.below hW).2 (X11, some ⟨g11, 0, none⟩, n, Lmt) (.tail _ (.tail _ (.tail _ (.tail _ (.tail _ (.head _))))))).2.2 (idsG HVmt.out) HVmt.out) (fun W hW => normal_ok f (some ⟨g12, 0, none⟩) n (n) Ltm W ((HZ24.out.below hW).2 (X12, some ⟨g12, 0, none⟩, n, Ltm) (.tail _ (.tail _ (.tail _ (.tail _ (.head _)))))).2.1 ((HZ24.out.below hW).2 (X12, some ⟨g12, 0, none⟩, n, Ltm) (.tail _ (.tail _ (.tail _ (.tail _ (.head _)))))).2.2 (idsG HVtm.out) HVtm.out)).mono ?_
  rintro e U25 ⟨rfl, hb⟩
  have HZ25 := Lib.hid (HZ24.out.below hb)
  clear hb HZ24 a00 a01 a10 a11
  have a00 := Lib.cell_of_heap (HZ25.out.2 (X17, some ⟨g17, 0, none⟩, n, Lns) (.tail _ (.tail _ (.head _)))).1 0
  have a01 := Lib.cell_of_heap (HZ25.out.2 (X17, some ⟨g17, 0, none⟩, n, Lns) (.tail _ (.tail _ (.head _)))).1 1
  have a10 := Lib.cell_of_heap (HZ25.out.2 (X1, some ⟨g1, 0, none⟩, n, Ls) (.tail _ (.tail _ (.tail _ (.tail _ (.tail _ (.tail _ (.tail _ (.tail _ (.tail _ (.tail _ (.tail _ (.tail _ (.tail _ (.tail _ (.tail _ (.head _))))))))))))))))).1 0
  have a11 := Lib.cell_of_heap (HZ25.out.2 (X1, some ⟨g1, 0, none⟩, n, Ls) (.tail _ (.tail _ (.tail _ (.tail _ (.tail _ (.tail _ (.tail _ (.tail _ (.tail _ (.tail _ (.tail _ (.tail _ (.tail _ (.tail _ (.tail _ (.head _))))))))))))))))).1 1
  go_wp2_with fail
  refine (lawEqual_calls f f (some ⟨g17, 0, none⟩) (some ⟨g1, 0, none⟩) n n (n) (n) (normL f Lns) (normL f Ls) U25 hn1 (lenG HVns.out (HZ25.out.2 (X17, some ⟨g17, 0, none⟩, n, Lns) (.tail _ (.tail _ (.head _)))).2.1.1) (lenG HVs.out (HZ25.out.2 (X1, some ⟨g1, 0, none⟩, n, Ls) (.tail _ (.tail _ (.tail _ (.tail _ (.tail _ (.tail _ (.tail _ (.tail _ (.tail _ (.tail _ (.tail _ (.tail _ (.tail _ (.tail _ (.tail _ (.head _))))))))))))))))).2.1.1) rfl (by rw [HEns.out, HEn.out, HEs.out]; exact norm_swap HVc.out) (fun W hW => normal_ok f (some ⟨g17, 0, none⟩) n (n) Lns W ((HZ25.out.below hW).2 (X17, some ⟨g17, 0, none⟩, n, Lns) (.tail _ (.tail _ (.head _)))).2.1 ((HZ25.out.below hW).2 (X17, some ⟨g17, 0, none⟩, n, Lns) (.tail _ (.tail _ (.head _)))).2.2 (idsG HVns.out) HVns.out) (fun W hW => normal_ok f (some ⟨g1, 0, none⟩) n (n) Ls W ((HZ25.out.below hW).2 (X1, some ⟨g1, 0, none⟩, n, Ls) (.tail _ (.tail _ (.tail _ (.tail _ (.tail _ (.tail _ (.tail _ (.tail _ (.tail _ (.tail _ (.tail _ (.tail _ (.tail _ (.tail _ (.tail _ (.head _))))))))))))))))).2.1 ((HZ25.out.below hW).2 (X1, some ⟨g1, 0, none⟩, n, Ls) (.tail _ (.tail _ (.tail _ (.tail _ (.tail _ (.tail _ (.tail _ (.tail _ (.tail _ (.tail _ (.tail _ (.tail _ (.tail _ (.tail _ (.tail _ (.head _))))))))))))))))).2.2 (idsG HVs.out) HVs.out)).mono ?_
  rintro e U26 ⟨rfl, hb⟩
  have HZ26 := Lib.hid (HZ25.out.below hb)
  clear hb HZ25 a00 a01 a10 a11
  have a00 := Lib.cell_of_heap (HZ26.out.2 (X18, some ⟨g18, 0, none⟩, n, Lnm) (.tail _ (.head _))).1 0
  have a01 := Lib.cell_of_heap (HZ26.out.2 (X18, some ⟨g18, 0, none⟩, n, Lnm) (.tail _ (.head _))).1 1
  have a10 := Lib.cell_of_heap (HZ26.out.2 (X2, some ⟨g2, 0, none⟩, n, Lm) (.tail _ (.tail _ (.tail _ (.tail _ (.tail _ (.tail _ (.tail _ (.tail _ (.tail _ (.tail _ (.tail _ (.tail _ (.tail _ (.tail _ (.head _)))))))))))))))).1 0
  have a11 := Lib.cell_of_heap (HZ26.out.2 (X2, some ⟨g2, 0, none⟩, n, Lm) (.tail _ (.tail _ (.tail _ (.tail _ (.tail _ (.tail _ (.tail _ (.tail _ (.tail _ (.tail _ (.tail _ (.tail _ (.tail _ (.tail _ (.head _)))))))))))))))).1 1
  go_wp2_with fail
  refine (lawEqual_calls f f (some ⟨g18, 0, none⟩) (some ⟨g2, 0, none⟩) n n (n) (n) (normL f Lnm) (normL f Lm) U26 hn1 (lenG HVnm.out (HZ26.out.2 (X18, some ⟨g18, 0, none⟩, n, Lnm) (.tail _ (.head _))).2.1.1) (lenG HVm.out (HZ26.out.2 (X2, some ⟨g2, 0, none⟩, n, Lm) (.tail _ (.tail _ (.tail _ (.tail _ (.tail _ (.tail _ (.tail _ (.tail _ (.tail _ (.tail _ (.tail _ (.tail _ (.tail _ (.tail _ (.head _)))))))))))))))).2.1.1) rfl (by rw [HEnm.out, HEn.out, HEm.out]; exact norm_mirror HVc.out) (fun W hW => normal_ok f (some ⟨g18, 0, none⟩) n (n) Lnm W ((HZ26.out.below hW).2 (X18, some ⟨g18, 0, none⟩, n, Lnm) (.tail _ (.head _))).2.1 ((HZ26.out.below hW).2 (X18, some ⟨g18, 0, none⟩, n, Lnm) (.tail _ (.head _))).2.2 (idsG HVnm.out) HVnm.out) (fun W hW => normal_ok f (some ⟨g2, 0, none⟩) n (n) Lm W ((HZ26.out.below hW).2 (X2, some ⟨g2, 0, none⟩, n, Lm) (.tail _ (.tail _ (.tail _ (.tail _ (.tail _ (.tail _ (.tail _ (.tail _ (.tail _ (.tail _ (.tail _ (.tail _ (.tail _ (.tail _ (.head _)))))))))))))))).2.1 ((HZ26.out.below hW).2 (X2, some ⟨g2, 0, none⟩, n, Lm) (.tail _ (.tail _ (.tail _ (.tail _ (.tail _ (.tail _ (.tail _ (.tail _ (.tail _ (.tail _ (.tail _ (.tail _ (.tail _ (.tail _ (.head _)))))))))))))))).2.2 (idsG HVm.out) HVm.out)).mono ?_
  rintro e U27 ⟨rfl, hb⟩
  have HZ27 := Lib.hid (HZ26.out.below hb)
  clear hb HZ26 a00 a01 a10 a11
  have a00 := Lib.cell_of_heap (HZ27.out.2 (X19, some ⟨g19, 0, none⟩, n, Lnt) (.head _)).1 0
  have a01 := Lib.cell_of_heap (HZ27.out.2 (X19, some ⟨g19, 0, none⟩, n, Lnt) (.head _)).1 1
  have a10 := Lib.cell_of_heap (HZ27.out.2 (X3, some ⟨g3, 0, none⟩, n, Lt) (.tail _ (.tail _ (.tail _ (.tail _ (.tail _ (.tail _ (.tail _ (.tail _ (.tail _ (.tail _ (.tail _ (.tail _ (.tail _ (.head _))))))))))))))).1 0
  have a11 := Lib.cell_of_heap (HZ27.out.2 (X3, some ⟨g3, 0, none⟩, n, Lt) (.tail _ (.tail _ (.tail _ (.tail _ (.tail _ (.tail _ (.tail _ (.tail _ (.tail _ (.tail _ (.tail _ (.tail _ (.tail _ (.head _))))))))))))))).1 1
  go_wp2_with fail
  refine (lawEqual_calls f f (some ⟨g19, 0, none⟩) (some ⟨g3, 0, none⟩) n n (n) (n) (normL f Lnt) (normL f Lt) U27 hn1 (lenG HVnt.out (HZ27.out.2 (X19, some ⟨g19, 0, none⟩, n, Lnt) (.head _)).2.1.1) (lenG HVt.out (HZ27.out.2 (X3, some ⟨g3, 0, none⟩, n, Lt) (.tail _ (.tail _ (.tail _ (.tail _ (.tail _ (.tail _ (.tail _ (.tail _ (.tail _ (.tail _ (.tail _ (.tail _ (.tail _ (.head _))))))))))))))).2.1.1) rfl (by rw [HEnt.out, HEn.out, HEt.out]; exact up_of_norm0 HVc.out HUt.out (by have h := HUnt.out; rw [HEn.out] at h; exact h)) (fun W hW => normal_ok f (some ⟨g19, 0, none⟩) n (n) Lnt W ((HZ27.out.below hW).2 (X19, some ⟨g19, 0, none⟩, n, Lnt) (.head _)).2.1 ((HZ27.out.below hW).2 (X19, some ⟨g19, 0, none⟩, n, Lnt) (.head _)).2.2 (idsG HVnt.out) HVnt.out) (fun W hW => normal_ok f (some ⟨g3, 0, none⟩) n (n) Lt W ((HZ27.out.below hW).2 (X3, some ⟨g3, 0, none⟩, n, Lt) (.tail _ (.tail _ (.tail _ (.tail _ (.tail _ (.tail _ (.tail _ (.tail _ (.tail _ (.tail _ (.tail _ (.tail _ (.tail _ (.head _))))))))))))))).2.1 ((HZ27.out.below hW).2 (X3, some ⟨g3, 0, none⟩, n, Lt) (.tail _ (.tail _ (.tail _ (.tail _ (.tail _ (.tail _ (.tail _ (.tail _ (.tail _ (.tail _ (.tail _ (.tail _ (.tail _ (.head _))))))))))))))).2.2 (idsG HVt.out) HVt.out)).mono ?_
  rintro e U28 ⟨rfl, hb⟩
  have HZ28 := Lib.hid (HZ27.out.below hb)
  clear hb HZ27 a00 a01 a10 a11
  go_wp2_with fail
  refine (HKN.out _ HZ28.out.1).mono ?_
  rintro e v ⟨rfl, hb⟩
  have HF : Hid (Below w.heap.size w v) := HZ28.out.1.trans (hb.mono HZ28.out.1.size)
  clear hb
  go_wp2_with fail
  go_ret
  exact ⟨rfl, HF.out⟩

set_option maxHeartbeats 8000000 in
set_option maxRecDepth 100000 in
theorem codeGroup_big (f : Int) (A : Option Addr) (n c : Nat)  (w : World) (hn : ¬ n ≤ 60) (hT : ItoaAll w) :
    Calls Tryd.prog 8 #[.agg #[.int .i64 f, .slice A n c]] w fun e w' => e = .returned (.bool true) ∧ Below w.heap.size w w' := by
  have HT := Lib.hid hT
  have t1 : decide ((n : Int) ≤ 60) = false := by rw [decide_eq_false_iff_not]; omega
  have HSM := Lib.hid (fun W => small_calls f A n c false W t1)
  clear hT hn
  go_enter Tryd.func8, Tryd.ntmps8
  go_wp2_with fail
  obtain ⟨W0, hW0⟩ : ∃ W0, W0 = w.alloc (.cells #[.int .i64 f, .slice A n c] 24) := ⟨_, rfl⟩
  have HB0 : Hid (Below w.heap.size w W0) := by rw [hW0]; exact (Below.refl _ _).alloc (Nat.le_refl _) _
  have HP0 : Hid (W0.heap[w.heap.size]? = some (.cells #[.int .i64 f, .slice A n c] 24 (0, 0))) := by rw [hW0]; exact heap_alloc_new w _
  rw [← hW0]
  clear hW0
  refine (HSM.out _).mono ?_
  rintro e w1 ⟨rfl, hb⟩
  have HB1 : Hid (Below w.heap.size w w1) := HB0.out.trans (hb.mono HB0.out.size)
  have HP1 : Hid (w1.heap[w.heap.size]? = some (.cells #[.int .i64 f, .slice A n c] 24 (0, 0))) := (hb.block _ (heap_lt HP0.out)).trans HP0.out
  clear hb HB0 HP0
  go_wp2_with fail
  refine (known_calls _ (HT.out.below HB1.out)).mono ?_
  rintro e w2 ⟨rfl, hb⟩
  have HB2 : Hid (Below w.heap.size w w2) := HB1.out.trans (hb.mono HB1.out.size)
  clear hb
  go_wp2_with fail
  go_ret
  exact ⟨rfl, HB2.out⟩

set_option maxHeartbeats 8000000 in
set_option maxRecDepth 100000 in
theorem codeGroup_bad (f : Int) (A : Option Addr) (n c : Nat)  (ce : Int) (w : World) (hn : n ≤ 60) (hz : ce ≠ 0) (hRC : ∀ W, Below w.heap.size w W → Calls Tryd.prog 13 #[.agg #[.int .i64 f, .slice A n c]] W fun e w' => e = .returned (.int .i64 ce) ∧ Below W.heap.size W w') (hT : ItoaAll w) :
    Calls Tryd.prog 8 #[.agg #[.int .i64 f, .slice A n c]] w fun e w' => e = .returned (.bool true) ∧ Below w.heap.size w w' := by
  have HT := Lib.hid hT
  have HRC := Lib.hid hRC
  have t1 : decide ((n : Int) ≤ 60) = true := by rw [decide_eq_true_iff]; omega
  have HSM := Lib.hid (fun W => small_calls f A n c true W t1)
  have hzb : (ce != 0) = true := by simp [hz]
  clear hT hn hRC
  go_enter Tryd.func8, Tryd.ntmps8
  go_wp2_with fail
  obtain ⟨W0, hW0⟩ : ∃ W0, W0 = w.alloc (.cells #[.int .i64 f, .slice A n c] 24) := ⟨_, rfl⟩
  have HB0 : Hid (Below w.heap.size w W0) := by rw [hW0]; exact (Below.refl _ _).alloc (Nat.le_refl _) _
  have HP0 : Hid (W0.heap[w.heap.size]? = some (.cells #[.int .i64 f, .slice A n c] 24 (0, 0))) := by rw [hW0]; exact heap_alloc_new w _
  rw [← hW0]
  clear hW0
  refine (HSM.out _).mono ?_
  rintro e w1 ⟨rfl, hb⟩
  have HB1 : Hid (Below w.heap.size w w1) := HB0.out.trans (hb.mono HB0.out.size)
  have HP1 : Hid (w1.heap[w.heap.size]? = some (.cells #[.int .i64 f, .slice A n c] 24 (0, 0))) := (hb.block _ (heap_lt HP0.out)).trans HP0.out
  clear hb HB0 HP0
  have a0 := Lib.cell_of_heap HP1.out 0
  have a1 := Lib.cell_of_heap HP1.out 1
  go_wp2_with fail
  refine (HRC.out _ HB1.out).mono ?_
  rintro e w2 ⟨rfl, hb⟩
  have HB2 : Hid (Below w.heap.size w w2) := HB1.out.trans (hb.mono HB1.out.size)
  clear hb a0 a1
  go_wp2_with fail
  refine (known_calls _ (HT.out.below HB2.out)).mono ?_
  rintro e w3 ⟨rfl, hb⟩
  have HB3 : Hid (Below w.heap.size w w3) := HB2.out.trans (hb.mono HB2.out.size)
  clear hb
  go_wp2_with fail
  go_ret
  exact ⟨rfl, HB3.out⟩



theorem codeGroup_walk (f : Int) (A : Option Addr) (n c : Nat) (ls : List Lt) (w : World) (_hf : I64 f) (hL : LS w A n ls) (_hn : n ≤ maxLen) (_hI : ∀ l, l ∈ ls → LtAll l) (_hz : A = none → c = 0) (_hs : n ≤ c) (hA : ∀ b off, A = some ⟨b, off, none⟩ → b < w.heap.size) (_hsp : ∀ a, A = some a → a.spot = none) (hT : ItoaAll w) :
    Calls Tryd.prog 8 #[.agg #[.int .i64 f, .slice A n c]] w fun e w' => e = .returned (.bool true) ∧ Below w.heap.size w w' := by
  by_cases hn : n ≤ 60
  · have hRC : ∀ W, Below w.heap.size w W → Calls Tryd.prog 13 #[.agg #[.int .i64 f, .slice A n c]] W fun e w' => e = .returned (.int .i64 (checkE f ls)) ∧ Below W.heap.size W w' :=
      fun W hW => refCheck_full f A n c ls W (hL.below hW)
    by_cases hv : checkE f ls = 0
    · rw [hv] at hRC
      exact codeGroup_main f A n c ls w hn hL hv hA hRC hT
    · exact codeGroup_bad f A n c (checkE f ls) w hn hv hRC hT
  · exact codeGroup_big f A n c w hn hT

end Go.Proofs.YtjdabkniojmacaaDoor
