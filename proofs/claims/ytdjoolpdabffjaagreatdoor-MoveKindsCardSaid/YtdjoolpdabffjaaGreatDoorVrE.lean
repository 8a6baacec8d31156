/- What single operations do: an append that makes an array. -/
import Derived.Test.YtdjoolpdabffjaaGreatDoorVrD
namespace Go.Proofs.YtdjoolpdabffjaaGreatDoor.Vr
open Go Go.Region Go.RowKit
section
variable {P : Program} {N : Nat} {w0 w : World} {γ : Gm} {H H' : Hp}

set_option maxHeartbeats 4000000 in
theorem append_more {tys : Array TypeId} {sT xT el : TypeId} {i : TypeInfo} {z : Value} {ux : TypeDesc} {n : Nat} {base : Option Addr} {len cap : Nat} {ry : Value} {rs : List Value} {old : Array Value} {T : TypeId}
    (ht0 : tys[0]? = some sT) (ht1 : tys[1]? = some xT) (hu : P.underlying sT = some (.slice el)) (hux : P.underlying xT = some ux) (hi : P.info? el = some i) (hz : ∀ w : World, (zeroValue el).run P w = .ok z w) (hzs : z.cells.size = i.size) (hby : i.bytes ≤ 4096) (hn : n ≤ 4096) (hkind : srcKind ux = true)
    (hc : cap < len + n) (hlen4 : len ≤ 4096) (hsrc : Src P w ux z i n ry rs) (hold : (Builtin.firstCells i.size len (.slice base len cap)).run P w.drew = .ok old w.drew) :
    ∃ k, (Builtin.append_ tys T #[.slice base len cap, ry]).run P w =
      .ok (.slice (some ⟨w.heap.size, 0, none⟩) (len + n) (len + n + k)) (w.drew.alloc (.cells (old ++ rs.toArray ++ (copies z.cells.toList k).toArray) el)) := by
  have hsize : ∀ w : World, (sizeOf el).run P w = .ok i.size w := fun w => run_size (by simp [sizeT, hi])
  have hc' : ¬ len + n ≤ cap := by omega
  have hmax : ¬ (((len + n : Nat) : Int) > IntKind.i64.max) := by
    have : IntKind.i64.max = 9223372036854775807 := by decide
    omega
  have hgs := grow_small hc (by omega)
  have hroom : ¬ (Builtin.nextslicecap (len + n) cap * i.bytes > 2 ^ 48) := by
    have := Nat.mul_le_mul hgs hby
    omega
  have hforced : (Question.appendCap (len + n) cap el).forced = false := rfl
  refine ⟨(w.tape w.drawn (.appendCap (len + n) cap el)) % (2 ^ 63 - (len + n)), ?_⟩
  have hcut : (Question.appendCap (len + n) cap el).cut (w.tape w.drawn (.appendCap (len + n) cap el)) = len + n + (w.tape w.drawn (.appendCap (len + n) cap el)) % (2 ^ 63 - (len + n)) := rfl
  have hk : ∀ k, len + n + k - (len + n) = k := fun k => by omega
  generalize (w.tape w.drawn (.appendCap (len + n) cap el)) % (2 ^ 63 - (len + n)) = k at hcut ⊢
  unfold Src at hsrc
  by_cases hint : isInt ux = true
  · rw [if_pos hint] at hsrc
    obtain ⟨rfl, rfl⟩ := hsrc
    cases ux <;> first | (simp [isInt] at hint; done) | skip
    have wl : IntKind.i64.wrap (n : Int) = n := IntWalk.i64_in _ (by omega)
    have h1 : ¬ ((n : Int) < 0) := by omega
    have hb : ¬ ((n : Int) * (i.bytes : Int) > 2 ^ 48) := by
      have b1 : (i.bytes : Int) ≤ 4096 := by omega
      have b2 : (n : Int) * (i.bytes : Int) ≤ n * 4096 := Int.mul_le_mul_of_nonneg_left b1 (by omega)
      omega
    have hmax' : ∀ p : Prop, ¬ (((len + n : Nat) : Int) > IntKind.i64.max ∧ p) := fun p q => hmax q.1
    by_cases h0 : n * i.size = 0
    · have hnil : copies z.cells.toList n = [] := List.eq_nil_of_length_eq_zero (by rw [copies_length]; simpa [hzs] using h0)
      rw [hnil]
      simp only [Builtin.append_, Sem.run_bind, run_und hu, run_und hux, ht0, ht1, hsize, Result.andThen_ok, Sem.run_pure, List.getElem?_toArray, List.getElem?_cons_zero, List.getElem?_cons_succ, asInt, asIntOf, wl, run_info hi, if_true, if_neg h1, if_neg hb, Int.toNat_natCast,
        Bool.not_true, if_pos h0, Sem.run_ite, Result.andThen_ite, hz, zeroCells_eq, hold, run_choose, hforced, hcut, World.drew_eq, run_askRoom, hk, newRow, run_newObj, World.alloc_eq, if_neg hc', if_neg hroom, hmax, false_and, if_false, Bool.false_eq_true]
      rfl
    · simp only [Builtin.append_, Sem.run_bind, run_und hu, run_und hux, ht0, ht1, hsize, Result.andThen_ok, Sem.run_pure, List.getElem?_toArray, List.getElem?_cons_zero, List.getElem?_cons_succ, asInt, asIntOf, wl, run_info hi, if_true, if_neg h1, if_neg hb, Int.toNat_natCast,
        Bool.not_true, if_neg h0, Sem.run_ite, Result.andThen_ite, hz, zeroCells_eq, hold, run_choose, hforced, hcut, World.drew_eq, run_askRoom, hk, newRow, run_newObj, World.alloc_eq, if_neg hc', if_neg hroom, hmax, false_and, if_false, Bool.false_eq_true]
      rfl
  · rw [if_neg hint] at hsrc
    obtain ⟨hlen, hcs⟩ := hsrc
    have hcs := hcs w.drew rfl
    have hmax' : ∀ p : Prop, ¬ (((len + n : Nat) : Int) > IntKind.i64.max ∧ p) := fun p q => hmax q.1
    cases ux <;> first
      | (exact absurd rfl hint)
      | (cases hkind; done)
      | (simp only [Builtin.append_, Sem.run_bind, run_und hu, run_und hux, ht0, ht1, hsize, Result.andThen_ok, Sem.run_pure, List.getElem?_toArray, List.getElem?_cons_zero, List.getElem?_cons_succ, hlen, run_info hi, if_true, Bool.not_false, hcs,
          Sem.run_ite, Result.andThen_ite, hz, zeroCells_eq, hold, run_choose, hforced, hcut, World.drew_eq, run_askRoom, hk, newRow, run_newObj, World.alloc_eq, if_neg hc', if_neg hroom, hmax, false_and, if_false, Bool.false_eq_true]
         rfl)

end
end Go.Proofs.YtdjoolpdabffjaaGreatDoor.Vr
