/-
  What Print of a code writes is cut into the letters' words, and read again (pure).
-/
import Derived.Test.YtplpccgbciglpaaGreatDoorWordC
import Derived.Lib.Fields
import Derived.Lib.IndexMore
import Derived.Lib.AtoiAll
namespace Go.Proofs.YtplpccgbciglpaaGreatDoor
open Go.RowKit

/-- The number that is read, whatever the string. -/
def numV (l : List UInt8) : Int := match Lib.atoiAll l with | .ok v => v | .«syntax» => 0 | .range => Lib.atoiSat l
/-- The letter that is read. -/
def letterM (s : List UInt8) : Lt :=
  if (Lib.cut s [46]).2.2 = true then ⟨1, numV (Lib.cut s [46]).1, numV (Lib.cut s [46]).2.1, 0, 0, false⟩
  else if s.length < 2 then ⟨0, 0, 0, 0, 0, false⟩
  else ⟨2, 0, 0, numV (s.take (s.length - 2)), if s.getD (s.length - 1) 0 = 45 then -1 else 1, decide (s.getD (s.length - 2) 0 = 111)⟩
def headM (s : List UInt8) : Int := numV (Lib.cut s [58]).1

theorem dig_byte : ∀ d : Nat, d < 10 → (UInt8.ofNat (48 + d)).toNat = 48 + d := by decide
theorem dig_range (u : Nat) : ∀ b, b ∈ Lib.decDigits u → 48 ≤ b.toNat ∧ b.toNat ≤ 57 := by
  induction u using Nat.strongRecOn with
  | ind u ih =>
    intro b hb
    rw [Lib.decDigits] at hb
    split at hb
    · rename_i h
      rw [List.mem_singleton] at hb
      subst hb
      have := dig_byte u h
      omega
    · rename_i h
      rcases List.mem_append.1 hb with hb | hb
      · exact ih (u / 10) (by omega) b hb
      · rw [List.mem_singleton] at hb
        subst hb
        have := dig_byte (u % 10) (by omega)
        omega
/-- The bytes of a numeral: digits and a minus. -/
theorem itoa_bytes (x : Int) : ∀ b, b ∈ Lib.itoa x → b.toNat = 45 ∨ (48 ≤ b.toNat ∧ b.toNat ≤ 57) := by
  intro b hb
  unfold Lib.itoa at hb
  split at hb
  · rcases List.mem_cons.1 hb with hb | hb
    · left; subst hb; rfl
    · exact .inr (dig_range _ _ hb)
  · exact .inr (dig_range _ _ hb)
theorem itoa_not (x : Int) (c : UInt8) (hc : c.toNat ≠ 45) (hd : ¬ (48 ≤ c.toNat ∧ c.toNat ≤ 57)) : ∀ b, b ∈ Lib.itoa x → b ≠ c := by
  intro b hb e
  subst e
  rcases itoa_bytes x b hb with h | h
  · exact hc h
  · exact hd h

theorem index_none (c : UInt8) : ∀ l : List UInt8, (∀ b, b ∈ l → b ≠ c) → Lib.index l [c] = -1
  | [], _ => rfl
  | b :: l, h => by
    have hb : ¬ c = b := fun e => h b (List.mem_cons_self ..) e.symm
    have hi := index_none c l (fun d hd => h d (List.mem_cons_of_mem _ hd))
    unfold Lib.index
    simp [List.isPrefixOf, hb, hi]
theorem index_first (c : UInt8) : ∀ (l r : List UInt8), (∀ b, b ∈ l → b ≠ c) → Lib.index (l ++ c :: r) [c] = (l.length : Int)
  | [], r, _ => by
    rw [List.nil_append]
    unfold Lib.index
    simp [List.isPrefixOf]
  | b :: l, r, h => by
    have hb : ¬ c = b := fun e => h b (List.mem_cons_self ..) e.symm
    have hi := index_first c l r (fun d hd => h d (List.mem_cons_of_mem _ hd))
    rw [List.cons_append]
    unfold Lib.index
    simp only [List.isPrefixOf, hb, hi, beq_iff_eq, Bool.and_eq_true, false_and, if_false, List.length_cons]
    rw [if_neg (by omega)]
    omega
theorem cut_first (c : UInt8) (l r : List UInt8) (h : ∀ b, b ∈ l → b ≠ c) : Lib.cut (l ++ c :: r) [c] = (l, r, true) := by
  unfold Lib.cut
  rw [index_first c l r h, if_pos (by omega), Int.toNat_natCast]
  have : (l ++ c :: r).drop (l.length + [c].length) = r := by
    rw [show l ++ c :: r = (l ++ [c]) ++ r by simp]
    exact List.drop_left' (by simp)
  rw [this, List.take_left' rfl]
theorem cut_none (c : UInt8) (l : List UInt8) (h : ∀ b, b ∈ l → b ≠ c) : Lib.cut l [c] = (l, [], false) := by
  unfold Lib.cut
  rw [index_none c l h, if_neg (by omega)]

theorem atoi_small : ∀ i : Nat, i < 401 → Lib.atoiAll (Lib.itoa (i : Int)) = .ok (i : Int) := by decide +kernel
theorem numV_itoa {x : Int} (h0 : 0 ≤ x) (h1 : x ≤ 400) : numV (Lib.itoa x) = x := by
  obtain ⟨i, rfl⟩ := Int.eq_ofNat_of_zero_le h0
  unfold numV
  rw [atoi_small i (by omega)]

/-- A letter whose numbers are few: a letter of a valid code. -/
def LtOk (l : Lt) : Prop :=
  (l.kind = 1 ∧ 0 ≤ l.gate ∧ l.gate ≤ 400 ∧ 0 ≤ l.rank ∧ l.rank ≤ 400 ∧ l.id = 0 ∧ l.sign = 0 ∧ l.over = false) ∨
  (l.kind = 2 ∧ l.gate = 0 ∧ l.rank = 0 ∧ 0 ≤ l.id ∧ l.id ≤ 400 ∧ (l.sign = 1 ∨ l.sign = -1))

theorem letter_word {l : Lt} (h : LtOk l) : letterM (wordL l) = l := by
  obtain ⟨k, g, r, i, s, o⟩ := l
  rcases h with ⟨hk, g0, g1, r0, r1, hi, hs, ho⟩ | ⟨hk, hg, hr, i0, i1, hs⟩
  · dsimp only at *
    subst hk hi hs ho
    unfold wordL letterM
    dsimp only
    rw [if_pos rfl, cut_first 46 _ _ (itoa_not g 46 (by decide) (by decide)), if_pos rfl, numV_itoa g0 g1, numV_itoa r0 r1]
  · dsimp only at *
    subst hk hg hr
    obtain ⟨u1, hu1⟩ : ∃ u : UInt8, (if o then 111 else 117) = u := ⟨_, rfl⟩
    obtain ⟨u2, hu2⟩ : ∃ u : UInt8, (if s = 1 then 43 else if s = -1 then 45 else 63) = u := ⟨_, rfl⟩
    have hn1 : u1 ≠ 46 := by rw [← hu1]; cases o <;> decide
    have hn2 : u2 ≠ 46 := by rw [← hu2]; rcases hs with rfl | rfl <;> decide
    have hno : ∀ b, b ∈ Lib.itoa i ++ [u1] ++ [u2] → b ≠ 46 := by
      intro b hb
      rcases List.mem_append.1 hb with hb | hb
      · rcases List.mem_append.1 hb with hb | hb
        · exact itoa_not i 46 (by decide) (by decide) b hb
        · rw [List.mem_singleton] at hb; subst hb; exact hn1
      · rw [List.mem_singleton] at hb; subst hb; exact hn2
    have hw : wordL ⟨2, 0, 0, i, s, o⟩ = Lib.itoa i ++ [u1] ++ [u2] := by
      unfold wordL
      dsimp only
      rw [hu1, hu2, if_neg (by decide), if_pos rfl]
    rw [hw]
    unfold letterM
    rw [cut_none 46 _ hno, if_neg (by simp)]
    have hlen : (Lib.itoa i ++ [u1] ++ [u2]).length = (Lib.itoa i).length + 2 := by simp
    rw [if_neg (by omega), hlen]
    have e1 : (Lib.itoa i ++ [u1] ++ [u2]).take ((Lib.itoa i).length + 2 - 2) = Lib.itoa i := by
      rw [List.append_assoc]; exact List.take_left' (by omega)
    have e2 : (Lib.itoa i ++ [u1] ++ [u2]).getD ((Lib.itoa i).length + 2 - 1) 0 = u2 := by
      rw [List.getD_eq_getElem?_getD, List.getElem?_append_right (by simp)]
      simp
    have e3 : (Lib.itoa i ++ [u1] ++ [u2]).getD ((Lib.itoa i).length + 2 - 2) 0 = u1 := by
      rw [List.getD_eq_getElem?_getD, List.append_assoc, List.getElem?_append_right (by omega)]
      simp
    rw [e1, e2, e3, numV_itoa i0 i1]
    have e4 : (if u2 = 45 then (-1 : Int) else 1) = s := by rw [← hu2]; rcases hs with rfl | rfl <;> decide
    have e5 : decide (u1 = 111) = o := by rw [← hu1]; cases o <;> decide
    rw [e4, e5]

/-- What the bytes of a letter's word are. -/
theorem word_bytes {l : Lt} (h : LtOk l) : ∀ b, b ∈ wordL l → b.toNat < 128 ∧ Lib.isSp b = false ∧ b ≠ 63 ∧ b ≠ 58 := by
  have hn : ∀ x b, b ∈ Lib.itoa x → b.toNat < 128 ∧ Lib.isSp b = false ∧ b ≠ 63 ∧ b ≠ 58 := by
    intro x b hb
    have hr := itoa_bytes x b hb
    refine ⟨by omega, ?_, itoa_not x 63 (by decide) (by decide) b hb, itoa_not x 58 (by decide) (by decide) b hb⟩
    unfold Lib.isSp
    have : ∀ c : UInt8, c.toNat ≠ 45 → ¬ (48 ≤ c.toNat ∧ c.toNat ≤ 57) → (b == c) = false := by
      intro c h1 h2
      rw [beq_eq_false_iff_ne]
      exact itoa_not x c h1 h2 b hb
    rw [this 9 (by decide) (by decide), this 10 (by decide) (by decide), this 11 (by decide) (by decide), this 12 (by decide) (by decide), this 13 (by decide) (by decide), this 32 (by decide) (by decide)]
    rfl
  intro b hb
  rcases h with ⟨hk, _⟩ | ⟨hk, _, _, _, _, hs⟩
  · unfold wordL at hb
    rw [if_pos hk] at hb
    rcases List.mem_append.1 hb with hb | hb
    · exact hn _ b hb
    · rcases List.mem_cons.1 hb with hb | hb
      · subst hb; decide
      · exact hn _ b hb
  · unfold wordL at hb
    rw [if_neg (by omega), if_pos hk] at hb
    rcases List.mem_append.1 hb with hb | hb
    · rcases List.mem_append.1 hb with hb | hb
      · exact hn _ b hb
      · rw [List.mem_singleton] at hb; subst hb; cases l.over <;> decide
    · rw [List.mem_singleton] at hb; subst hb; rcases hs with h | h <;> rw [h] <;> decide
theorem word_ne {l : Lt} (h : LtOk l) : wordL l ≠ [] := by
  rcases h with ⟨hk, _⟩ | ⟨hk, _⟩
  · unfold wordL; rw [if_pos hk]; simp
  · unfold wordL; rw [if_neg (by omega), if_pos hk]; simp

theorem fieldsGo_word : ∀ (wd cur r : List UInt8), (∀ b, b ∈ wd → Lib.isSp b = false) → Lib.fieldsGo cur (wd ++ r) = Lib.fieldsGo (cur ++ wd) r
  | [], cur, r, _ => by simp
  | b :: wd, cur, r, h => by
    rw [List.cons_append, Lib.fieldsGo_more _ _ _ (h b (List.mem_cons_self ..)), fieldsGo_word wd _ r (fun c hc => h c (List.mem_cons_of_mem _ hc))]
    simp
/-- The rest of a printed code is cut into its words. -/
theorem fields_words : ∀ ls : List Lt, (∀ l, l ∈ ls → LtOk l) → ∀ cur : List UInt8, Lib.fieldsGo cur (ls.flatMap fun l => [32] ++ wordL l) = (if cur = [] then [] else [cur]) ++ ls.map wordL
  | [], _, cur => by
    cases cur <;> simp [Lib.fieldsGo]
  | l :: ls, h, cur => by
    have hl := h l (List.mem_cons_self ..)
    have ih := fields_words ls (fun x hx => h x (List.mem_cons_of_mem _ hx)) (wordL l)
    rw [if_neg (word_ne hl)] at ih
    have e : (l :: ls).flatMap (fun l => [32] ++ wordL l) = 32 :: (wordL l ++ ls.flatMap fun l => [32] ++ wordL l) := by simp
    have e2 : Lib.fieldsGo [] (wordL l ++ ls.flatMap fun l => [32] ++ wordL l) = (l :: ls).map wordL := by
      rw [fieldsGo_word _ _ _ (fun b hb => (word_bytes hl b hb).2.1), List.nil_append, ih]
      rfl
    rw [e]
    by_cases hc : cur = []
    · subst hc
      rw [Lib.fieldsGo_sp _ _ (by decide), e2, if_pos rfl, List.nil_append]
    · rw [Lib.fieldsGo_end _ _ _ (by decide) hc, e2, if_neg hc]
      rfl
theorem cut_print (f : Int) (ls : List Lt) : Lib.cut (printC f ls) [58] = (Lib.itoa f, ls.flatMap (fun l => [32] ++ wordL l), true) := by
  unfold printC
  rw [List.append_assoc]
  exact cut_first 58 _ _ (itoa_not f 58 (by decide) (by decide))
theorem fields_print {f : Int} {ls : List Lt} (h : ∀ l, l ∈ ls → LtOk l) : Lib.fields (Lib.cut (printC f ls) [58]).2.1 = ls.map wordL := by
  rw [cut_print]
  unfold Lib.fields
  rw [fields_words ls h [], if_pos rfl, List.nil_append]
theorem letters_print {f : Int} {ls : List Lt} (h : ∀ l, l ∈ ls → LtOk l) : (Lib.fields (Lib.cut (printC f ls) [58]).2.1).map letterM = ls := by
  rw [fields_print h, List.map_map]
  conv => rhs; rw [← List.map_id ls]
  apply List.map_congr_left
  intro l hl
  exact letter_word (h l hl)
theorem print_bytes {f : Int} {ls : List Lt} (h : ∀ l, l ∈ ls → LtOk l) : ∀ b, b ∈ printC f ls → b.toNat < 128 ∧ b ≠ 63 := by
  intro b hb
  unfold printC at hb
  rcases List.mem_append.1 hb with hb | hb
  · rcases List.mem_append.1 hb with hb | hb
    · have := itoa_bytes f b hb
      exact ⟨by omega, itoa_not f 63 (by decide) (by decide) b hb⟩
    · rw [List.mem_singleton] at hb; subst hb; decide
  · obtain ⟨l, hl, hb⟩ := List.mem_flatMap.1 hb
    rcases List.mem_append.1 hb with hb | hb
    · rw [List.mem_singleton] at hb; subst hb; decide
    · exact ⟨(word_bytes (h l hl) b hb).1, (word_bytes (h l hl) b hb).2.2.1⟩

end Go.Proofs.YtplpccgbciglpaaGreatDoor
