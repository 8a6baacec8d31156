/-
  What line.Print writes is cut at its spaces into the numbers' numerals, and can be read in one way only.
-/
import Derived.Test.YtdbipehilfinnabDoorPrint
import Derived.Test.YtdbipehilfinnabDoorWord
import Derived.Lib.Split
import Derived.Lib.SplitLaws
import Derived.Lib.AtoiAll
namespace Go.Proofs.YtdbipehilfinnabDoor
open Go.RowKit

theorem digit_byte : ∀ d : Nat, d < 10 → (UInt8.ofNat (48 + d)).toNat = 48 + d := by decide
theorem decDigits_range (u : Nat) : ∀ b, b ∈ Lib.decDigits u → 48 ≤ b.toNat ∧ b.toNat ≤ 57 := by
  induction u using Nat.strongRecOn with
  | ind u ih =>
    intro b hb
    rw [Lib.decDigits] at hb
    split at hb
    · rename_i h
      rw [List.mem_singleton] at hb
      subst hb
      have := digit_byte u h
      omega
    · rename_i h
      rcases List.mem_append.1 hb with hb | hb
      · exact ih (u / 10) (by omega) b hb
      · rw [List.mem_singleton] at hb
        subst hb
        have := digit_byte (u % 10) (by omega)
        omega
theorem decDigits_ne (u : Nat) : Lib.decDigits u ≠ [] := by
  rw [Lib.decDigits]
  split <;> simp
/-- The number that digits say. -/
def valD (l : List UInt8) : Nat := l.foldl (fun a b => a * 10 + (b.toNat - 48)) 0
theorem valD_dec (u : Nat) : valD (Lib.decDigits u) = u := by
  induction u using Nat.strongRecOn with
  | ind u ih =>
    rw [Lib.decDigits]
    split
    · rename_i h
      have := digit_byte u h
      simp only [valD, List.foldl_cons, List.foldl_nil]
      omega
    · rename_i h
      have h1 := ih (u / 10) (by omega)
      have h2 := digit_byte (u % 10) (by omega)
      unfold valD at h1 ⊢
      rw [List.foldl_append, h1, List.foldl_cons, List.foldl_nil]
      omega
theorem itoa_no32 (x : Int) : ∀ b, b ∈ Lib.itoa x → b ≠ 32 := by
  intro b hb e
  subst e
  unfold Lib.itoa at hb
  split at hb
  · rcases List.mem_cons.1 hb with hb | hb
    · exact absurd hb (by decide)
    · have := (decDigits_range _ _ hb).1
      exact absurd this (by decide)
  · have := (decDigits_range _ _ hb).1
    exact absurd this (by decide)
theorem itoa_inj {x y : Int} (h : Lib.itoa x = Lib.itoa y) : x = y := by
  unfold Lib.itoa at h
  split at h <;> split at h
  · injection h with _ h
    have := congrArg valD h
    rw [valD_dec, valD_dec] at this
    omega
  · rename_i h1 h2
    have hm : (45 : UInt8) ∈ Lib.decDigits y.toNat := by rw [← h]; exact List.mem_cons_self ..
    exact absurd (decDigits_range _ _ hm).1 (by decide)
  · rename_i h1 h2
    have hm : (45 : UInt8) ∈ Lib.decDigits x.toNat := by rw [h]; exact List.mem_cons_self ..
    exact absurd (decDigits_range _ _ hm).1 (by decide)
  · have := congrArg valD h
    rw [valD_dec, valD_dec] at this
    omega
theorem itoa_ne_dash (x : Int) : Lib.itoa x ≠ [45] := by
  intro h
  unfold Lib.itoa at h
  split at h
  · injection h with _ h
    exact decDigits_ne _ h
  · have hm : (45 : UInt8) ∈ Lib.decDigits x.toNat := by rw [h]; exact List.mem_cons_self ..
    exact absurd (decDigits_range _ _ hm).1 (by decide)

theorem index_no32 : ∀ l : List UInt8, (∀ b, b ∈ l → b ≠ 32) → Lib.index l [32] = -1
  | [], _ => rfl
  | b :: l, h => by
    have hb : ¬ (32 : UInt8) = b := fun e => h b (List.mem_cons_self ..) e.symm
    have hi := index_no32 l (fun c hc => h c (List.mem_cons_of_mem _ hc))
    unfold Lib.index
    simp [List.isPrefixOf, hb, hi]
theorem index_at32 : ∀ (l r : List UInt8), (∀ b, b ∈ l → b ≠ 32) → Lib.index (l ++ 32 :: r) [32] = (l.length : Int)
  | [], r, _ => by
    rw [List.nil_append]
    unfold Lib.index
    simp [List.isPrefixOf]
  | b :: l, r, h => by
    have hb : ¬ (32 : UInt8) = b := fun e => h b (List.mem_cons_self ..) e.symm
    have hi := index_at32 l r (fun c hc => h c (List.mem_cons_of_mem _ hc))
    rw [List.cons_append]
    unfold Lib.index
    have hn : ¬ ((l.length : Int) == -1) = true := by rw [beq_iff_eq]; omega
    simp only [List.isPrefixOf, hb, hi, beq_iff_eq, Bool.and_eq_true, false_and, if_false, List.length_cons]
    rw [if_neg (by omega)]
    omega

theorem printTo_cons2 (x y : Int) (r : List Int) : printTo (x :: y :: r) = Lib.itoa x ++ 32 :: printTo (y :: r) := by simp [printTo]

/-- The string of a list is cut into the numerals. -/
theorem split_printTo : ∀ ws : List Int, ws ≠ [] → Lib.split (printTo ws) [32] = ws.map Lib.itoa
  | [], h => absurd rfl h
  | [x], _ => by
    have hi := index_no32 _ (itoa_no32 x)
    rw [printTo_one]
    unfold Lib.split
    rw [Lib.count_miss hi]
    rfl
  | x :: y :: r, _ => by
    have ih := split_printTo (y :: r) (by simp)
    have hi := index_at32 (Lib.itoa x) (printTo (y :: r)) (itoa_no32 x)
    rw [printTo_cons2]
    unfold Lib.split at ih ⊢
    rw [Lib.count_hit (by simp) hi]
    have hd : (Lib.itoa x ++ 32 :: printTo (y :: r)).drop ((Lib.itoa x).length + [(32 : UInt8)].length) = printTo (y :: r) := by
      rw [show Lib.itoa x ++ 32 :: printTo (y :: r) = (Lib.itoa x ++ [32]) ++ printTo (y :: r) by simp]
      exact List.drop_left' (by simp)
    rw [hd, Nat.add_comm 1, Lib.splitK, if_neg (by rw [hi, beq_iff_eq]; omega), hi, Int.toNat_natCast, hd, Nat.add_zero, ih, List.take_left' rfl]
    rfl

theorem map_inj {f : Int → List UInt8} (hf : ∀ x y, f x = f y → x = y) : ∀ {a b : List Int}, a.map f = b.map f → a = b
  | [], [], _ => rfl
  | [], _ :: _, h => by cases h
  | _ :: _, [], h => by cases h
  | x :: a, y :: b, h => by
    rw [List.map_cons, List.map_cons] at h
    injection h with h1 h2
    rw [hf x y h1, map_inj hf h2]
theorem printTo_inj {a b : List Int} (ha : a ≠ []) (hb : b ≠ []) (h : printTo a = printTo b) : a = b := by
  refine map_inj (f := Lib.itoa) (fun _ _ => itoa_inj) ?_
  rw [← split_printTo a ha, ← split_printTo b hb, h]
theorem printTo_ne_dash {a : List Int} (ha : a ≠ []) : printTo a ≠ [45] := by
  intro h
  have := split_printTo a ha
  rw [h] at this
  cases a with
  | nil => exact ha rfl
  | cons x r =>
    have h2 : Lib.split [45] [32] = [[45]] := by decide +kernel
    rw [h2, List.map_cons] at this
    injection this with h3 _
    exact itoa_ne_dash x h3.symm
theorem printL_cons (x : Int) (r : List Int) : printL (x :: r) = printTo (x :: r) := rfl
theorem printL_nil : printL [] = [45] := rfl
theorem printL_inj {a b : List Int} (h : printL a = printL b) : a = b := by
  cases a with
  | nil =>
    cases b with
    | nil => rfl
    | cons y s =>
      rw [printL_nil, printL_cons] at h
      exact absurd h.symm (printTo_ne_dash (by simp))
  | cons x r =>
    cases b with
    | nil =>
      rw [printL_nil, printL_cons] at h
      exact absurd h (printTo_ne_dash (by simp))
    | cons y s => exact printTo_inj (by simp) (by simp) h

theorem atoi_itoa_small : ∀ i : Nat, i < 41 → Lib.atoiAll (Lib.itoa (i : Int)) = .ok (i : Int) := by decide +kernel

end Go.Proofs.YtdbipehilfinnabDoor
