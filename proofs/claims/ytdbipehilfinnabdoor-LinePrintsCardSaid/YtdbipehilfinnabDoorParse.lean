/-
  line.Parse: what it reads is a word whose string it is; if it refuses, no word has that string.
-/
import Derived.Test.YtdbipehilfinnabDoorKnown
import Derived.Test.YtdbipehilfinnabDoorRefV
import Derived.Test.YtdbipehilfinnabDoorTextL
import Derived.Lib.AtoiErrMem
namespace Go.Proofs.YtdbipehilfinnabDoor
open Go.RowKit

/-- What is asked of the library's variables. -/
def Tabs (w : World) : Prop :=
  (∃ m : Int, w.cell? ⟨3, 0, none⟩ = some (.int .i64 m) ∧ 3 < w.heap.size) ∧
  (∃ tp p, w.cell? ⟨0, 0, none⟩ = some (.iface tp p) ∧ 0 < w.heap.size) ∧
  (∃ tp p, w.cell? ⟨1, 0, none⟩ = some (.iface tp p) ∧ 1 < w.heap.size)
theorem Tabs.below {w w' : World} (h : Tabs w) (hb : Below w.heap.size w w') : Tabs w' := by
  obtain ⟨⟨m, h1, l1⟩, ⟨t2, p2, h2, l2⟩, ⟨t3, p3, h3, l3⟩⟩ := h
  exact ⟨⟨m, (hb.cell (p := ⟨_, 0, none⟩) l1).trans h1, Nat.lt_of_lt_of_le l1 hb.size⟩, ⟨t2, p2, (hb.cell (p := ⟨_, 0, none⟩) l2).trans h2, Nat.lt_of_lt_of_le l2 hb.size⟩, ⟨t3, p3, (hb.cell (p := ⟨_, 0, none⟩) l3).trans h3, Nat.lt_of_lt_of_le l3 hb.size⟩⟩

def spc : ByteArray := ⟨#[32]⟩
def dash : ByteArray := ⟨#[45]⟩
/-- The pieces. -/
def partsOf (s : ByteArray) : List ByteArray := Lib.splitB spc 0 (Lib.countB s spc) s
theorem partsOf_length (s : ByteArray) : (partsOf s).length = Lib.countB s spc + 1 := Lib.splitB_all spc (by decide) 0 _ s rfl
theorem partsOf_data (s : ByteArray) : (partsOf s).map (·.data.toList) = Lib.split s.data.toList [32] := Lib.splitB_data spc 0 _ s
theorem extract_size_le (s : ByteArray) (a b : Nat) : (s.extract a b).size ≤ s.size := by
  rw [ByteArray.size_extract]
  omega
theorem splitB_size (sep : ByteArray) (save : Nat) : ∀ (k : Nat) (s : ByteArray) (p : ByteArray), p ∈ Lib.splitB sep save k s → p.size ≤ s.size
  | 0, s, p, h => by
    rw [Lib.splitB_zero, List.mem_singleton] at h
    subst h
    exact Nat.le_refl _
  | k + 1, s, p, h => by
    unfold Lib.splitB at h
    split at h
    · rw [List.mem_singleton] at h
      subst h
      exact Nat.le_refl _
    · rcases List.mem_cons.1 h with h | h
      · subst h
        exact extract_size_le _ _ _
      · exact Nat.le_trans (splitB_size sep save k _ p h) (extract_size_le _ _ _)
theorem partsOf_size {s p : ByteArray} (h : p ∈ partsOf s) : p.size ≤ s.size := splitB_size _ _ _ _ _ h

/-- The numbers of a word's string. -/
theorem parts_of_word {s : ByteArray} {ws : List Int} (hv : validB 40 ws = true) (hp : printL ws = s.data.toList) (hd : s ≠ dash) : (partsOf s).map (fun p => Lib.atoiAll p.data.toList) = ws.map Lib.NumEnd.ok := by
  have hne : ws ≠ [] := by
    intro e
    subst e
    refine hd (ByteArray.ext ?_)
    apply Array.ext'
    rw [← hp]; rfl
  have h1 : printTo ws = s.data.toList := by
    rw [← hp]
    cases ws with
    | nil => exact absurd rfl hne
    | cons x r => rfl
  have h2 : (partsOf s).map (·.data.toList) = ws.map Lib.itoa := by rw [partsOf_data, ← h1, split_printTo ws hne]
  have h3 : (partsOf s).map (fun p => Lib.atoiAll p.data.toList) = ((partsOf s).map (·.data.toList)).map Lib.atoiAll := by rw [List.map_map]; rfl
  rw [h3, h2, List.map_map]
  apply List.map_congr_left
  intro x hx
  obtain ⟨x0, x1⟩ := validB_range hv hx
  obtain ⟨i, rfl⟩ := Int.eq_ofNat_of_zero_le x0
  exact atoi_itoa_small i (by omega)

def ParRel (parts : List ByteArray) (w1 : World) (v i : Value) (wr : World) : Prop :=
  ∃ (j : Nat) (vs : List Int), j ≤ parts.length ∧ i = .int .i64 j ∧ (parts.take j).map (fun p => Lib.atoiAll p.data.toList) = vs.map Lib.NumEnd.ok ∧ OwnI wr w1.heap.size v vs ∧ Below w1.heap.size w1 wr

def NoWord (s : ByteArray) : Prop := ∀ ws, validB 40 ws = true → printL ws ≠ s.data.toList

def ParsePost (s : ByteArray) (w : World) (e : Ending) (w' : World) : Prop :=
  Below w.heap.size w w' ∧ ((2000 < s.size ∧ e = .returned (.tuple #[.slice none 0 0, .int .i64 7])) ∨
    (s.size ≤ 2000 ∧ ∃ A n c ws, e = .returned (.tuple #[.slice A n c, .int .i64 0]) ∧ SL w' A n ws ∧ validB 40 ws = true ∧ printL ws = s.data.toList) ∨
    (s.size ≤ 2000 ∧ e = .returned (.tuple #[.slice none 0 0, .int .i64 6]) ∧ NoWord s))

theorem noWord_fail {s : ByteArray} (hd : s ≠ dash) {j : Nat} {p : ByteArray} (hp : (partsOf s)[j]? = some p) (hn : ∀ v, Lib.atoiAll p.data.toList ≠ .ok v) : NoWord s := by
  intro ws hv hpr
  have h := parts_of_word hv hpr hd
  have h2 : ((partsOf s).map (fun p => Lib.atoiAll p.data.toList))[j]? = some (Lib.atoiAll p.data.toList) := by rw [List.getElem?_map, hp]; rfl
  rw [h, List.getElem?_map] at h2
  cases hx : ws[j]? with
  | none => rw [hx] at h2; cases h2
  | some x =>
    rw [hx] at h2
    injection h2 with h2
    exact hn x h2.symm
theorem ok_inj : ∀ {a b : List Int}, a.map Lib.NumEnd.ok = b.map Lib.NumEnd.ok → a = b
  | [], [], _ => rfl
  | [], _ :: _, h => by cases h
  | _ :: _, [], h => by cases h
  | x :: a, y :: b, h => by
    rw [List.map_cons, List.map_cons] at h
    injection h with h1 h2
    injection h1 with h1
    rw [h1, ok_inj h2]
theorem noWord_end {s : ByteArray} (hd : s ≠ dash) {vs : List Int} (hv : (partsOf s).map (fun p => Lib.atoiAll p.data.toList) = vs.map Lib.NumEnd.ok) (hn : ¬ (validB 40 vs = true ∧ printL vs = s.data.toList)) : NoWord s := by
  intro ws hw hpr
  have h := parts_of_word hw hpr hd
  rw [hv] at h
  have e := ok_inj h
  subst e
  exact hn ⟨hw, hpr⟩

theorem itoaAt_word {w : World} {x : Int} (h : 0 ≤ x ∧ x ≤ 40) : ItoaAt w x := by
  obtain ⟨i, rfl⟩ := Int.eq_ofNat_of_zero_le h.1
  exact itoaAt_small w i (by omega)
theorem parRel_next {parts : List ByteArray} {j : Nat} {p : ByteArray} {vs : List Int} {v : Int} (hp : parts[j]? = some p) (hm : (parts.take j).map (fun p => Lib.atoiAll p.data.toList) = vs.map Lib.NumEnd.ok) (hv : Lib.atoiAll p.data.toList = .ok v) :
    (parts.take (j + 1)).map (fun p => Lib.atoiAll p.data.toList) = (vs ++ [v]).map Lib.NumEnd.ok := by
  rw [List.take_add_one, hp, List.map_append, List.map_append, hm]
  simp [hv]
theorem parRel_len {parts : List ByteArray} {j : Nat} {vs : List Int} (hj : j ≤ parts.length) (hm : (parts.take j).map (fun p => Lib.atoiAll p.data.toList) = vs.map Lib.NumEnd.ok) : vs.length = j := by
  have := congrArg List.length hm
  rw [List.length_map, List.length_map, List.length_take] at this
  omega
theorem bytes_eq_of {l : List UInt8} {s : ByteArray} : ((⟨l.toArray⟩ : ByteArray).toList == s.toList) = decide (l = s.data.toList) := by
  rw [ByteArray.toList_eq, ByteArray.toList_eq, Bool.eq_iff_iff, beq_iff_eq, decide_eq_true_eq]
theorem below_of_bytes {w w' : World} {e : TypeId} (h : w' = w ∨ ∃ t, w' = Lib.bytesWorld w e t) : Below w.heap.size w w' := by
  rcases h with rfl | ⟨t, rfl⟩
  · exact Below.refl _ _
  · exact Lib.bytesWorld_below _ _ _

theorem split_calls (s : ByteArray) (w : World) (hT : Tabs w) (hs : s.size ≤ 2000) {N : Nat} (hN : (partsOf s).length = N) :
    Calls Tryd.prog 43 #[.string s, .string spc] w fun e w' => e = .returned (.slice (some ⟨w.heap.size, 0, none⟩) N N) ∧ Below w.heap.size w w' ∧ w.heap.size < w'.heap.size ∧ ∀ k p, (partsOf s)[k]? = some p → w'.cell? ⟨w.heap.size, k, none⟩ = some (.string p) := by
  obtain ⟨⟨m, hm, _⟩, _, _⟩ := hT
  refine (Tryd.strings_Split s spc m w (by omega) hm (by decide)).mono ?_
  rintro e w1 ⟨rfl, rfl⟩
  subst hN
  rw [partsOf_length]
  refine ⟨rfl, (Below.refl _ _).alloc (Nat.le_refl _) _, by simp, fun k p hp => ?_⟩
  rw [World.cell?_alloc_new]
  unfold partsOf at hp
  simp [hp]

set_option maxHeartbeats 1000000 in
set_option maxRecDepth 100000 in
theorem parse_calls (s : ByteArray) (w : World) (hT : Tabs w) :
    Calls Tryd.prog 21 #[.string s] w (ParsePost s w) := by
  have HT := Lib.hid hT
  by_cases h2 : 2000 < s.size
  · have h2i : (2000 : Int) < s.size := by omega
    go_enter Tryd.func21, Tryd.ntmps21
    go_wp2
    go_ret2
    exact ⟨Below.refl _ _, .inl ⟨h2, rfl⟩⟩
  · have h2i : ¬ (2000 : Int) < s.size := by omega
    by_cases hd : s = dash
    · subst hd
      have hdt : (dash.toList == [45]) = true := by rw [ByteArray.toList_eq]; rfl
      go_enter Tryd.func21, Tryd.ntmps21
      go_wp2
      go_ret2
      exact ⟨Below.refl _ _, .inr (.inl ⟨by decide, none, 0, 0, [], rfl, SL.nil _ _, by decide, rfl⟩)⟩
    · have hde : (s.toList == [45]) = false := by
        rw [beq_eq_false_iff_ne, ByteArray.toList_eq]
        intro e
        refine hd (ByteArray.ext (Array.ext' ?_))
        rw [e]; rfl
      have HD := Lib.hid hd
      clear hd
      have hsz : s.size ≤ 2000 := by omega
      have hcle := Lib.countB_le spc (by decide) s.size s (Nat.le_refl _)
      have hNle : (partsOf s).length ≤ 2001 := by rw [partsOf_length]; omega
      obtain ⟨N, hNN⟩ : ∃ N, (partsOf s).length = N := ⟨_, rfl⟩
      rw [hNN] at hNle
      have HNN := Lib.hid hNN
      have HS := Lib.hid (split_calls s w hT hsz hNN)
      clear hcle hNN
      go_enter Tryd.func21, Tryd.ntmps21
      go_wp2_with (go_at_call 43; refine HS.out.mono ?_; rintro e w1 ⟨rfl, hb1, hws, hcell⟩)
      have HCELL := Lib.hid hcell
      have HT1 := Lib.hid (HT.out.below hb1)
      clear hcell
      go_loopw [4, 17] (fun v i wr => ParRel (partsOf s) w1 v i wr) (fun _ i _ => N - (intOf i).toNat)
      case atStart => exact ⟨0, [], Nat.zero_le _, rfl, rfl, World.ownsRow_nil _ _ _ _, Below.refl _ _⟩
      case round =>
        obtain ⟨j, vs, hj, rfl, hmap, hown, hb⟩ := hrel
        rw [HNN.out] at hj
        have hlen := parRel_len (by rw [HNN.out]; exact hj) hmap
        have HMAP := Lib.hid hmap
        have HOWN := Lib.hid hown
        have HTR := Lib.hid (HT1.out.below hb)
        clear hmap hown
        by_cases hlt : j < N
        · obtain ⟨p, hp⟩ : ∃ p, (partsOf s)[j]? = some p := ⟨_, List.getElem?_eq_getElem (by rw [HNN.out]; exact hlt)⟩
          have hc : wr.cell? ⟨w.heap.size, j, none⟩ = some (.string p) := (hb.cell (p := ⟨_, j, none⟩) hws).trans (HCELL.out j p hp)
          have hps : p.size ≤ s.size := partsOf_size (List.mem_of_getElem? hp)
          have HP := Lib.hid hp
          clear hp
          cases ha : Lib.atoiAll p.data.toList with
          | ok v =>
            have HA := Lib.hid (Tryd.strconv_Atoi_ok p (by omega) v ha wr)
            have HV := Lib.hid (parRel_next HP.out HMAP.out ha)
            clear ha
            go_wp2_with (first
              | (go_at_call 44; refine HA.out.mono ?_; rintro e w2 ⟨rfl, hw2⟩; have HB2 := Lib.hid (below_of_bytes hw2); clear hw2; have HBB := Lib.hid (hb.trans (HB2.out.mono hb.size)); have hs2 := HBB.out.size)
              | (at_builtin; refine wpList_append_ints rfl _ _ rfl w1.heap.size _ vs rfl (OwnI.below (OwnI.below HOWN.out HB2.out) ((Below.refl _ _).alloc (Nat.le_refl _) _)) ⟨w2.heap.size, 0, none⟩ 1 1 [v] rfl ?c0 ?c1 ?c2 ?_))
            case c0 => exact SL.one w2 _ _
            case c1 => omega
            case c2 => first | omega | (simp; omega)
            intro v' w' hown' hg _
            obtain ⟨A2, c2, rfl, _, _⟩ := hown'.form
            have HREL : Hid (ParRel (partsOf s) w1 (.slice A2 (vs ++ [v]).length c2) (.int .i64 ((j : Int) + 1)) w') :=
              ⟨j + 1, vs ++ [v], by rw [HNN.out]; omega, by rw [Int.natCast_add]; rfl, HV.out, hown', grown_below (HBB.out.alloc HBB.out.size _) ((HOWN.out.below HB2.out).below ((Below.refl _ _).alloc (Nat.le_refl _) _)) hg⟩
            clear hown' hg hc
            go_wp2_with fail
            go_roundw
            case rel => exact HREL.out
            case measure => simp [intOf]; omega
          | «syntax» =>
            obtain ⟨_, ⟨tp, pp, he, _⟩, _⟩ := HTR.out
            have HA := Lib.hid (Tryd.strconv_Atoi_syntax p (by omega) ha (.iface tp pp) wr he (Or.inr ⟨tp, pp, rfl⟩))
            have HNW : Hid (NoWord s) := noWord_fail HD.out HP.out (fun v => by rw [ha]; simp)
            clear ha
            go_wp2_with (go_at_call 44; refine HA.out.mono ?_; rintro e w2 ⟨K, rfl, _, _, hb2⟩)
            go_ret2
            exact ⟨(hb1.trans (hb.mono hb1.size)).trans (hb2.mono (hb1.trans (hb.mono hb1.size)).size), .inr (.inr ⟨hsz, rfl, HNW.out⟩)⟩
          | range =>
            obtain ⟨_, _, ⟨tp, pp, he, _⟩⟩ := HTR.out
            have HA := Lib.hid (Tryd.strconv_Atoi_range p (by omega) ha (.iface tp pp) wr he (Or.inr ⟨tp, pp, rfl⟩))
            have HNW : Hid (NoWord s) := noWord_fail HD.out HP.out (fun v => by rw [ha]; simp)
            clear ha
            go_wp2_with (go_at_call 44; refine HA.out.mono ?_; rintro e w2 ⟨K, rfl, _, _, hb2⟩)
            go_ret2
            exact ⟨(hb1.trans (hb.mono hb1.size)).trans (hb2.mono (hb1.trans (hb.mono hb1.size)).size), .inr (.inr ⟨hsz, rfl, HNW.out⟩)⟩
        · obtain rfl : j = N := by omega
          obtain ⟨A1, c1, rfl, hcl, _⟩ := HOWN.out.form
          have hsl := HOWN.out.sl
          rw [hlen] at hsl hcl ⊢
          have HSL := Lib.hid hsl
          clear hsl HOWN hlen
          have hbw := hb1.trans (hb.mono hb1.size)
          have HFULL := HMAP.out
          rw [List.take_of_length_le (by rw [HNN.out]; exact Nat.le_refl _)] at HFULL
          have HF := Lib.hid HFULL
          clear HFULL
          have HVC := Lib.hid (valid_calls 40 A1 j c1 vs wr HSL.out (by unfold maxLen; omega))
          by_cases hv : validB 40 vs = true
          · have HV := Lib.hid hv
            have HPC := Lib.hid (print_calls A1 j c1 vs wr HSL.out (by omega) (fun x hx => itoaAt_word (validB_range hv hx)) (fun x hx => Lib.itoa_length_le x (by have := validB_range hv hx; omega) (by have := validB_range hv hx; omega)))
            clear hv
            by_cases hpe : printL vs = s.data.toList
            · have hpb : (printL vs == s.toList) = true := by rw [ByteArray.toList_eq, beq_iff_eq]; exact hpe
              have HPE := Lib.hid hpe
              clear hpe
              go_wp2_with (first
                | (go_at_call 45; refine HVC.out.mono ?_; rw [HV.out]; rintro e w2 ⟨rfl, rfl⟩)
                | (go_at_call 19; refine HPC.out.mono ?_; rintro e w3 ⟨rfl, hb3⟩))
              go_ret2
              exact ⟨hbw.trans (hb3.mono hbw.size), .inr (.inl ⟨hsz, A1, j, c1, vs, rfl, HSL.out.below hb3, HV.out, HPE.out⟩)⟩
            · have hpb : (printL vs == s.toList) = false := by rw [ByteArray.toList_eq, beq_eq_false_iff_ne]; exact hpe
              have HNW : Hid (NoWord s) := noWord_end HD.out HF.out (fun q => hpe q.2)
              clear hpe
              go_wp2_with (first
                | (go_at_call 45; refine HVC.out.mono ?_; rw [HV.out]; rintro e w2 ⟨rfl, rfl⟩)
                | (go_at_call 19; refine HPC.out.mono ?_; rintro e w3 ⟨rfl, hb3⟩))
              go_ret2
              exact ⟨hbw.trans (hb3.mono hbw.size), .inr (.inr ⟨hsz, rfl, HNW.out⟩)⟩
          · have hv' : validB 40 vs = false := by simpa using hv
            have HV := Lib.hid hv'
            have HNW : Hid (NoWord s) := noWord_end HD.out HF.out (fun q => hv q.1)
            clear hv hv'
            go_wp2_with (go_at_call 45; refine HVC.out.mono ?_; rw [HV.out]; rintro e w2 ⟨rfl, rfl⟩)
            go_ret2
            exact ⟨hbw, .inr (.inr ⟨hsz, rfl, HNW.out⟩)⟩

end Go.Proofs.YtdbipehilfinnabDoor
