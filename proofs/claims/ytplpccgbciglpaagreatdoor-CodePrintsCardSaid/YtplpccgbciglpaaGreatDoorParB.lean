/-
  The walk of Parse of codes.
-/
import Derived.Test.YtplpccgbciglpaaGreatDoorParA
import Derived.Test.YtplpccgbciglpaaGreatDoorPrintC
import Derived.Test.YtplpccgbciglpaaGreatDoorAppL
import Derived.Test.YtplpccgbciglpaaGreatDoorDraw
namespace Go.Proofs.YtplpccgbciglpaaGreatDoor
open Go.RowKit

/-- strings.Fields, whatever the string. -/
def FieldsW (w : World) : Prop :=
  ∀ W, Below w.heap.size w W → ∀ s : ByteArray, s.size ≤ 10000 → Calls Tryz.prog 32 #[.string s] W fun e W' =>
    ∃ A, e = .returned (.slice (some ⟨A, 0, none⟩) (Lib.fieldsD s.data.toList).length (Lib.fieldsD s.data.toList).length) ∧ W.heap.size ≤ A ∧ A < W'.heap.size ∧ (∀ k x, (Lib.fieldsD s.data.toList)[k]? = some x → W'.cell? ⟨A, k, none⟩ = some (.string ⟨x.toArray⟩)) ∧ Below W.heap.size W W'
/-- strings.Contains at one byte. -/
def ContW (w : World) : Prop :=
  ∀ W, Below w.heap.size w W → ∀ (s : ByteArray) (c : UInt8), s.size ≤ 10000 → Calls Tryz.prog 34 #[.string s, .string ⟨#[c]⟩] W fun e W' => e = .returned (.bool (decide (c ∈ s.data.toList))) ∧ Below W.heap.size W W'
/-- All that Parse asks of the library. -/
structure LibW (w : World) : Prop where
  itoa : ItoaAll w
  cut : CutAll w
  atoi : AtoiW w
  fields : FieldsW w
  cont : ContW w
theorem LibW.below {w w' : World} (h : LibW w) (hb : Below w.heap.size w w') : LibW w' :=
  ⟨h.itoa.below hb, h.cut.below hb, h.atoi.below hb, fun W hW => h.fields W (hb.trans (hW.mono hb.size)), fun W hW => h.cont W (hb.trans (hW.mono hb.size))⟩

/-- The words of a string that is read as a code. -/
def wordsM (s : List UInt8) : List (List UInt8) := Lib.fieldsD (Lib.cut s [58]).2.1

theorem goD_len : ∀ (f : Nat) (cur l : List UInt8), (Lib.fieldsGoD f cur l).length ≤ f + 1 ∧ ∀ x, x ∈ Lib.fieldsGoD f cur l → x.length ≤ cur.length + l.length
  | 0, cur, l => by
    unfold Lib.fieldsGoD
    split
    · simp
    · refine ⟨by simp, fun x hx => ?_⟩
      rw [List.mem_singleton] at hx; subst hx; omega
  | f + 1, cur, l => by
    unfold Lib.fieldsGoD
    split
    · split
      · simp
      · refine ⟨by simp, fun x hx => ?_⟩
        rw [List.mem_singleton] at hx; subst hx; omega
    · split
      · obtain ⟨h1, h2⟩ := goD_len f [] (l.drop (Lib.decodeL l).2)
        refine ⟨?_, fun x hx => ?_⟩
        · rw [List.length_append]; split <;> simp <;> omega
        · rcases List.mem_append.1 hx with hx | hx
          · split at hx
            · cases hx
            · rw [List.mem_singleton] at hx; subst hx; omega
          · have := h2 x hx
            rw [List.length_drop] at this
            simp at this; omega
      · obtain ⟨h1, h2⟩ := goD_len f (cur ++ l.take (Lib.decodeL l).2) (l.drop (Lib.decodeL l).2)
        refine ⟨by omega, fun x hx => ?_⟩
        have := h2 x hx
        rw [List.length_append, List.length_take, List.length_drop] at this
        omega
theorem words_len {s : List UInt8} : (wordsM s).length ≤ s.length + 2 ∧ ∀ x, x ∈ wordsM s → x.length ≤ s.length := by
  unfold wordsM Lib.fieldsD
  have hc := cut_len s 58
  obtain ⟨h1, h2⟩ := goD_len ((Lib.cut s [58]).2.1.length + 1) [] (Lib.cut s [58]).2.1
  refine ⟨by omega, fun x hx => ?_⟩
  have := h2 x hx
  simp at this
  omega
theorem atoi_i64 {l : List UInt8} {v : Int} (h : Lib.atoiAll l = .ok v) : I64 v := by
  cases l with
  | nil => cases h
  | cons c r =>
    simp only [Lib.atoiAll] at h
    cases hm : Lib.parseMag (if c.toNat = 43 ∨ c.toNat = 45 then r else c :: r) with
    | «syntax» => rw [hm] at h; cases h
    | range => rw [hm] at h; cases h
    | ok u =>
      rw [hm] at h
      simp only at h
      split at h
      · cases h
      · split at h
        · cases h
        · injection h with h
          subst h
          unfold I64
          split <;> omega
theorem numV_i64 (l : List UInt8) : I64 (numV l) := by
  unfold numV
  split
  · rename_i v hv
    exact atoi_i64 hv
  · exact ⟨by decide, by decide⟩
  · unfold Lib.atoiSat
    split <;> exact ⟨by decide, by decide⟩
theorem letterM_ltI (s : List UInt8) : LtI (letterM s) := by
  have z : I64 0 := ⟨by decide, by decide⟩
  unfold letterM
  split
  · exact ⟨numV_i64 _, numV_i64 _, z⟩
  · split
    · exact ⟨z, z, z⟩
    · exact ⟨z, z, numV_i64 _⟩
theorem cont_iff (c : UInt8) (l : List UInt8) : decide (0 ≤ Lib.indexByte l c) = decide (c ∈ l) := by
  rw [decide_eq_decide]
  have hg := Lib.indexByte_ge l c
  constructor
  · intro h
    obtain ⟨o, ho⟩ := Int.eq_ofNat_of_zero_le h
    exact List.mem_of_getElem? (Lib.indexByte_some ho).1
  · intro h
    obtain ⟨k, hk⟩ := List.getElem?_of_mem h
    rcases Int.lt_or_le (Lib.indexByte l c) 0 with q | q
    · exact absurd hk (Lib.indexByte_none (by omega) k)
    · exact q
theorem heap_ltP {w : World} {q : Nat} {o : Obj} (h : w.heap[q]? = some o) : q < w.heap.size := by
  rcases Nat.lt_or_ge q w.heap.size with c | c
  · exact c
  · rw [Array.getElem?_eq_none c] at h; cases h
theorem code_set {w : World} {P : Nat} {c0 c1 : Value} {T : TypeId} (h : w.heap[P]? = some (.cells #[c0, c1] T (0, 0))) (v : Value) : (w.setCell ⟨P, 0, none⟩ v).heap[P]? = some (.cells #[v, c1] T (0, 0)) ∧ (w.setCell ⟨P, 1, none⟩ v).heap[P]? = some (.cells #[c0, v] T (0, 0)) := by
  constructor <;> simp [World.setCell, Array.getElem?_modify, h]

/-- What Parse answers. -/
def ParsePostC (s : ByteArray) (w : World) (e : Ending) (w' : World) : Prop :=
  Below w.heap.size w w' ∧
  ((8000 < s.size ∧ e = .returned (.tuple #[.agg #[.int .i64 0, .slice none 0 0], .int .i64 7])) ∨
   (s.size ≤ 8000 ∧ (printC (headM s.data.toList) ((wordsM s.data.toList).map letterM) ≠ s.data.toList ∨ (63 : UInt8) ∈ s.data.toList) ∧ e = .returned (.tuple #[.agg #[.int .i64 0, .slice none 0 0], .int .i64 6])) ∨
   (s.size ≤ 8000 ∧ (printC (headM s.data.toList) ((wordsM s.data.toList).map letterM) = s.data.toList ∧ ¬ (63 : UInt8) ∈ s.data.toList) ∧ checkE (headM s.data.toList) ((wordsM s.data.toList).map letterM) ≠ 0 ∧ e = .returned (.tuple #[.agg #[.int .i64 0, .slice none 0 0], .int .i64 (checkE (headM s.data.toList) ((wordsM s.data.toList).map letterM))])) ∨
   (s.size ≤ 8000 ∧ (printC (headM s.data.toList) ((wordsM s.data.toList).map letterM) = s.data.toList ∧ ¬ (63 : UInt8) ∈ s.data.toList) ∧ checkE (headM s.data.toList) ((wordsM s.data.toList).map letterM) = 0 ∧
     ∃ A n c, e = .returned (.tuple #[.agg #[.int .i64 (headM s.data.toList), .slice A n c], .int .i64 0]) ∧ LS w' A n ((wordsM s.data.toList).map letterM)))

/-- What holds at the heads of the loop. -/
def PcaRel (hf : Int) (ws : List (List UInt8)) (w0 w4 : World) (P : Nat) (i : Value) (wr : World) : Prop :=
  ∃ j : Nat, j ≤ ws.length ∧ i = .int .i64 j ∧ ∃ v, wr.heap[P]? = some (.cells #[.int .i64 hf, v] 24 (0, 0)) ∧ OwnL wr w4.heap.size v ((ws.take j).map letterM) ∧
    (∀ k, k < w4.heap.size → k ≠ P → wr.heap[k]? = w4.heap[k]?) ∧ w4.heap.size ≤ wr.heap.size ∧ Below w0.heap.size w0 wr

theorem own_formP {w : World} {B : Nat} {T : TypeId} {sz n : Nat} {v : Value} {xs : List Value} (h : w.ownsRow B T sz v n xs) : ∃ A c, v = .slice A n c := by
  rcases h.2 with ⟨hv, h0⟩ | ⟨g, cap, cur, hv, _⟩
  · exact ⟨none, 0, by rw [hv, h0]⟩
  · exact ⟨_, _, hv⟩
set_option maxHeartbeats 1000000 in
theorem ownL_ls {w : World} {B n c : Nat} {A : Option Addr} {L : List Lt} (h : OwnL w B (.slice A n c) L) (hn : L.length = n) : LS w A n L := by
  subst hn
  refine ⟨rfl, fun h0 => ?_⟩
  rcases h.2 with ⟨hv, hz⟩ | ⟨g, cap, cur, hv, _⟩
  · omega
  · injection hv with hA _ _
    subst hA
    refine ⟨g, 0, rfl, (World.ownsRow.lt h g rfl).2, fun k l hk => ?_⟩
    have c : ∀ i x, (ltCells l)[i]? = some x → w.cell? ⟨g, k * 6 + i, none⟩ = some x := fun i x hx => (ownsRow_cell h (letters_at hk i x hx)).1
    rw [Nat.zero_add]
    exact ⟨c 0 _ rfl, c 1 _ rfl, c 2 _ rfl, c 3 _ rfl, c 4 _ rfl, c 5 _ rfl⟩
theorem res_endP {w W : World} {R : Nat} {c0 c1 : Value} {T : TypeId} (h : W.heap[R]? = some (.cells #[c0, c1] T (0, 0))) (hR : w.heap.size ≤ R) (hb : Below w.heap.size w W) (v0 v1 : Value) :
    ((W.setCell ⟨R, 0, none⟩ v0).setCell ⟨R, 1, none⟩ v1).cell? ⟨R, 0, none⟩ = some v0 ∧ ((W.setCell ⟨R, 0, none⟩ v0).setCell ⟨R, 1, none⟩ v1).cell? ⟨R, 1, none⟩ = some v1 ∧ Below w.heap.size w ((W.setCell ⟨R, 0, none⟩ v0).setCell ⟨R, 1, none⟩ v1) := by
  have h1 := (code_set h v0).1
  have h2 := (code_set h1 v1).2
  exact ⟨Lib.cell_of_heap h2 0, Lib.cell_of_heap h2 1, (hb.setCell (p := ⟨R, 0, none⟩) hR _).setCell (p := ⟨R, 1, none⟩) hR _⟩
theorem LS.one (w : World) (l : Lt) (T : TypeId) : LS (w.alloc (.cells #[.int .i64 l.kind, .int .i64 l.gate, .int .i64 l.rank, .int .i64 l.id, .int .i64 l.sign, .bool l.over] T)) (some ⟨w.heap.size, 0, none⟩) 1 [l] := by
  refine ⟨rfl, fun _ => ⟨w.heap.size, 0, rfl, by simp, fun k m hk => ?_⟩⟩
  cases k with
  | zero =>
    injection hk with hk
    subst hk
    have h := heap_alloc_new w (.cells #[.int .i64 l.kind, .int .i64 l.gate, .int .i64 l.rank, .int .i64 l.id, .int .i64 l.sign, .bool l.over] T)
    exact ⟨Lib.cell_of_heap h 0, Lib.cell_of_heap h 1, Lib.cell_of_heap h 2, Lib.cell_of_heap h 3, Lib.cell_of_heap h 4, Lib.cell_of_heap h 5⟩
  | succ k => cases hk
theorem pca_next {hf : Int} {ws : List (List UInt8)} {w0 w4 wr w6 w7 : World} {P j : Nat} {x : List UInt8} {v v' : Value} (hx : ws[j]? = some x) (hj : j < ws.length) (hP : P < w4.heap.size) (hP0 : w0.heap.size ≤ P)
    (hp : wr.heap[P]? = some (.cells #[.int .i64 hf, v] 24 (0, 0))) (ho : OwnL wr w4.heap.size v ((ws.take j).map letterM)) (hk : ∀ k, k < w4.heap.size → k ≠ P → wr.heap[k]? = w4.heap[k]?) (hs : w4.heap.size ≤ wr.heap.size) (hb0 : Below w0.heap.size w0 wr)
    (h6 : Below wr.heap.size wr w6) (ho' : OwnL w7 w4.heap.size v' ((ws.take j).map letterM ++ [letterM x])) (hg : w6.grownBy w7 v.ownBlock) :
    w7.heap[P]? = some (.cells #[.int .i64 hf, v] 24 (0, 0)) ∧ PcaRel hf ws w0 w4 P (.int .i64 ((j + 1 : Nat) : Int)) (w7.setCell ⟨P, 1, none⟩ v') := by
  have hlt : ∀ k, v.ownBlock = some k → w4.heap.size ≤ k := fun k hk => (World.ownsRow.lt ho k hk).1
  have hb7 : Below w4.heap.size wr w7 := (h6.mono hs).grown hg (Nat.le_trans hs h6.size) hlt
  have hp7 := (hb7.block P hP).trans hp
  have hb07 : Below w0.heap.size w0 w7 := hb0.trans (hb7.mono (by omega))
  refine ⟨hp7, j + 1, by omega, rfl, v', (code_set hp7 v').2, ?_, fun k h1 h2 => ?_, ?_, hb07.setCell (p := ⟨P, 1, none⟩) hP0 _⟩
  · have e : (ws.take (j + 1)).map letterM = (ws.take j).map letterM ++ [letterM x] := by rw [List.take_add_one, hx]; simp
    rw [e]
    exact own_kept2' ho' (fun g hgv => Below.heap_setCell _ _ _ g (by have := (World.ownsRow.lt ho' g hgv).1; show g ≠ P; omega))
  · exact (Below.heap_setCell _ _ _ k h2).trans ((hb7.block k h1).trans (hk k h1 h2))
  · have : w7.heap.size ≤ (w7.setCell ⟨P, 1, none⟩ v').heap.size := by simp [World.setCell]
    exact Nat.le_trans (Nat.le_trans hs hb7.size) this

set_option maxHeartbeats 4000000 in
set_option maxRecDepth 100000 in
theorem parseC_calls (s : ByteArray) (w : World) (hT : LibW w) (h8 : s.size ≤ 8000) :
    Calls Tryz.prog 10 #[.string s] w (ParsePostC s w) := by
  have h8i : ¬ (8000 : Int) < s.size := by omega
  have HT := Lib.hid hT
  clear hT
  go_enter Tryz.func10, Tryz.ntmps10
  go_wp2_with fail
  have hb0 : Below w.heap.size w (w.alloc (.cells #[.int .i64 0, .slice none 0 0] 24)) := (Below.refl _ _).alloc (Nat.le_refl _) _
  have HR0 : Hid ((w.alloc (.cells #[.int .i64 0, .slice none 0 0] 24)).heap[w.heap.size]? = some (.cells #[.int .i64 0, .slice none 0 0] 24 (0, 0))) := heap_alloc_new w _
  obtain ⟨R, hR⟩ : ∃ R, R = w.heap.size := ⟨_, rfl⟩
  obtain ⟨V, hV⟩ : ∃ V, V = w.alloc (.cells #[.int .i64 0, .slice none 0 0] 24) := ⟨_, rfl⟩
  have HRW : Hid (w.heap.size ≤ R) := by rw [hR]; exact Nat.le_refl _
  rw [← hV] at hb0 HR0 ⊢
  rw [← hR] at HR0 ⊢
  have HB0 := Lib.hid hb0
  clear hb0 hV hR
  obtain ⟨hd, hhd⟩ : ∃ g : ByteArray, ⟨(Lib.cut s.data.toList [58]).1.toArray⟩ = g := ⟨_, rfl⟩
  obtain ⟨rs, hrs⟩ : ∃ r : ByteArray, ⟨(Lib.cut s.data.toList [58]).2.1.toArray⟩ = r := ⟨_, rfl⟩
  obtain ⟨ok, hok⟩ : ∃ b, (Lib.cut s.data.toList [58]).2.2 = b := ⟨_, rfl⟩
  have hCut := HT.out.cut V HB0.out s 58 (by omega)
  rw [hhd, hrs, hok] at hCut
  refine hCut.mono ?_
  rintro e w1 ⟨rfl, hb1⟩
  have HR1 : Hid (w1.heap[R]? = some (.cells #[.int .i64 0, .slice none 0 0] 24 (0, 0))) := (hb1.block R (heap_ltP HR0.out)).trans HR0.out
  have HB1 : Hid (Below w.heap.size w w1) := HB0.out.trans (hb1.mono HB0.out.size)
  clear hb1 HR0 HB0 hCut
  go_wp2_with fail
  have hsz : s.size = s.data.toList.length := Lib.size_eq s
  have hcl := cut_len s.data.toList 58
  have HSZ : Hid (hd.size ≤ 10000 ∧ rs.size ≤ 10000) := by
    rw [← hhd, ← hrs]
    simp only [Hid, ByteArray.size, List.size_toArray]
    omega
  obtain ⟨P, hP⟩ : ∃ P, P = w1.heap.size := ⟨_, rfl⟩
  obtain ⟨V1, hV1⟩ : ∃ V, V = w1.alloc (.cells #[.int .i64 0, .slice none 0 0] 24) := ⟨_, rfl⟩
  have hb1 : Below w1.heap.size w1 V1 := by rw [hV1]; exact (Below.refl _ _).alloc (Nat.le_refl _) _
  have HBV : Hid (Below w.heap.size w V1) := HB1.out.trans (hb1.mono HB1.out.size)
  have HPV : Hid (V1.heap[P]? = some (.cells #[.int .i64 0, .slice none 0 0] 24 (0, 0))) := by rw [hV1, hP]; exact heap_alloc_new w1 _
  have HRV : Hid (V1.heap[R]? = some (.cells #[.int .i64 0, .slice none 0 0] 24 (0, 0))) := (hb1.block R (heap_ltP HR1.out)).trans HR1.out
  have HNE : Hid (R ≠ P ∧ w.heap.size ≤ P) := by have := heap_ltP HR1.out; have := HRW.out; unfold Hid; omega
  rw [← hV1, ← hP]
  clear hsz hcl hb1 hV1 hP HR1 HB1
  have hAt := HT.out.atoi V1 HBV.out hd HSZ.out.1
  have HHF : Hid (numV hd.data.toList = headM s.data.toList) := by rw [← hhd]; rfl
  have HHI : Hid (I64 (numV hd.data.toList)) := numV_i64 _
  obtain ⟨hf, hhf⟩ : ∃ x, numV hd.data.toList = x := ⟨_, rfl⟩
  rw [hhf] at hAt HHF HHI
  have HWS : Hid (Lib.fieldsD rs.data.toList = wordsM s.data.toList) := by rw [← hrs]; rfl
  clear hhd hrs hok hhf
  refine hAt.mono ?_
  rintro e w2 ⟨er, rfl, hb2⟩
  have HB2 : Hid (Below w.heap.size w w2) := HBV.out.trans (hb2.mono HBV.out.size)
  have HP2 : Hid (w2.heap[P]? = some (.cells #[.int .i64 0, .slice none 0 0] 24 (0, 0))) := (hb2.block P (heap_ltP HPV.out)).trans HPV.out
  have HR2 : Hid (w2.heap[R]? = some (.cells #[.int .i64 0, .slice none 0 0] 24 (0, 0))) := (hb2.block R (heap_ltP HRV.out)).trans HRV.out
  clear hb2 HPV HRV HBV hAt
  have p0 := Lib.cell_of_heap HP2.out 0
  have p1 := Lib.cell_of_heap HP2.out 1
  have pf : ∀ x, w2.frozen? ⟨P, x, none⟩ = false := by intro x; have := HP2.out; simp [World.frozen?, this]
  go_wp2_with fail
  have HB3 : Hid (Below w.heap.size w (w2.setCell ⟨P, 0, none⟩ (.int .i64 hf))) := HB2.out.setCell (p := ⟨P, 0, none⟩) HNE.out.2 _
  have HP3 := Lib.hid (code_set HP2.out (.int .i64 hf)).1
  have HR3 : Hid ((w2.setCell ⟨P, 0, none⟩ (.int .i64 hf)).heap[R]? = some (.cells #[.int .i64 0, .slice none 0 0] 24 (0, 0))) := (Below.heap_setCell _ _ _ R HNE.out.1).trans HR2.out
  obtain ⟨W3, hW3⟩ : ∃ W, W = w2.setCell ⟨P, 0, none⟩ (.int .i64 hf) := ⟨_, rfl⟩
  rw [← hW3] at HB3 HP3 HR3 ⊢
  clear hW3 HB2 HP2 HR2 p0 p1 pf
  have hFi := HT.out.fields W3 HB3.out rs HSZ.out.2
  rw [HWS.out] at hFi
  obtain ⟨ws, hws⟩ : ∃ ws, wordsM s.data.toList = ws := ⟨_, rfl⟩
  rw [hws] at hFi
  have HWSS := Lib.hid hws
  have HWL : Hid (ws.length ≤ 8002 ∧ ∀ x, x ∈ ws → x.length ≤ 8000) := by
    have := words_len (s := s.data.toList)
    rw [hws, ← Lib.size_eq] at this
    exact ⟨by omega, fun x hx => by have := this.2 x hx; omega⟩
  obtain ⟨n, hn⟩ : ∃ n, ws.length = n := ⟨_, rfl⟩
  rw [hn] at hFi
  have HN := Lib.hid hn
  clear hws hn
  refine hFi.mono ?_
  rintro e w4 ⟨A, rfl, hAge, hA, hcell, hb4⟩
  have HB4 : Hid (Below w.heap.size w w4) := HB3.out.trans (hb4.mono HB3.out.size)
  have HP4 : Hid (w4.heap[P]? = some (.cells #[.int .i64 hf, .slice none 0 0] 24 (0, 0))) := (hb4.block P (heap_ltP HP3.out)).trans HP3.out
  have HR4 : Hid (w4.heap[R]? = some (.cells #[.int .i64 0, .slice none 0 0] 24 (0, 0))) := (hb4.block R (heap_ltP HR3.out)).trans HR3.out
  have HCELL := Lib.hid hcell
  have HAl := Lib.hid hA
  have HAP : Hid (A ≠ P) := by unfold Hid; rintro rfl; have := hAge; have := heap_ltP HP3.out; omega
  clear hb4 hcell hA hAge hFi HB3 HP3 HR3
  go_wp2_with fail
  have HPR : Hid (P < w4.heap.size ∧ R < w4.heap.size ∧ R ≠ P ∧ w.heap.size ≤ P ∧ A ≠ P) := ⟨heap_ltP HP4.out, heap_ltP HR4.out, HNE.out.1, HNE.out.2, HAP.out⟩
  go_loopw [30] (fun i wr => PcaRel hf ws w w4 P i wr) (fun i _ => n - (intOf i).toNat)
  case atStart => exact ⟨0, Nat.zero_le _, rfl, .slice none 0 0, HP4.out, OwnL.nil _ _, fun _ _ _ => rfl, Nat.le_refl _, HB4.out⟩
  case round =>
    obtain ⟨j, hj, rfl, v, hp, ho, hk, hs, hb⟩ := hrel
    have HP := Lib.hid hp
    have HO := Lib.hid ho
    have HK := Lib.hid hk
    have HS := Lib.hid hs
    have HB := Lib.hid hb
    rw [HN.out] at hj
    clear hp ho hs hb hk
    by_cases hlt : j < n
    · obtain ⟨x, hx⟩ : ∃ x, ws[j]? = some x := ⟨_, List.getElem?_eq_getElem (by rw [HN.out]; exact hlt)⟩
      have hc : wr.cell? ⟨A, j, none⟩ = some (.string ⟨x.toArray⟩) := by
        have h1 := HCELL.out j x hx
        have h2 := HK.out A HAl.out HPR.out.2.2.2.2
        unfold World.cell? at h1 ⊢
        dsimp only at h1 ⊢
        rw [h2]; exact h1
      have hji : (j : Int) < n := by omega
      have hn8 : n ≤ 8002 := by have := HWL.out.1; rw [HN.out] at this; exact this
      have HLT : Hid (∀ W, Below wr.heap.size wr W → Calls Tryz.prog 33 #[.string ⟨x.toArray⟩] W fun e w' => e = .returned (letterM x).val ∧ Below W.heap.size W w') := by
        intro W hW
        have hb' : Below w.heap.size w W := HB.out.trans (hW.mono HB.out.size)
        have := letter_calls ⟨x.toArray⟩ W (HT.out.cut.below hb') (HT.out.atoi.below hb') (by have := HWL.out.2 x (List.mem_of_getElem? hx); simp only [ByteArray.size, List.size_toArray]; omega)
        simpa using this
      obtain ⟨l, hl⟩ : ∃ l, letterM x = l := ⟨_, rfl⟩
      have HNX : Hid (∀ (w6 w7 : World) (v' : Value), Below wr.heap.size wr w6 → OwnL w7 w4.heap.size v' ((ws.take j).map letterM ++ [l]) → w6.grownBy w7 v.ownBlock → w7.heap[P]? = some (.cells #[.int .i64 hf, v] 24 (0, 0)) ∧ PcaRel hf ws w w4 P (.int .i64 ((j + 1 : Nat) : Int)) (w7.setCell ⟨P, 1, none⟩ v')) := by
        intro w6 w7 v' h1 h2 h3
        rw [← hl] at h2
        exact pca_next hx (by rw [HN.out]; exact hlt) HPR.out.1 HPR.out.2.2.2.1 HP.out HO.out HK.out HS.out HB.out h1 h2 h3
      have HBIG : Hid (((ws.take j).map letterM).length + 1 ≤ 1000000) := by
        have := HWL.out.1
        unfold Hid
        rw [List.length_map, List.length_take]; omega
      obtain ⟨xs, hxs⟩ : ∃ xs, (ws.take j).map letterM = xs := ⟨_, rfl⟩
      rw [hxs] at HO HNX HBIG
      rw [hl] at HLT
      unfold Lt.val at HLT
      have p1 := Lib.cell_of_heap HP.out 1
      have HKP : Hid (∀ W, Below wr.heap.size wr W → W.cell? ⟨P, 1, none⟩ = some v) := fun W hW => (hW.cell (p := ⟨P, 1, none⟩) (heap_ltP HP.out)).trans (Lib.cell_of_heap HP.out 1)
      clear hx hl hxs
      go_wp2_with fail
      go_region_law (first
        | (refine step_append_lts rfl (.tmp 35) (.tmp 38) rfl w4.heap.size v xs (by kernel_rfl) (ownsRow_below HO.out (HB5.out.alloc HB5.out.size _)) w5.heap.size 0 1 1 [l] (by kernel_rfl) (LS.one w5 l _) HBIG.out (Nat.le_trans HS.out (HB5.out.alloc HB5.out.size _).size) ?_; intro v7 w7 hown7 hg7; have HNN := Lib.hid (HNX.out _ w7 v7 (HB5.out.alloc HB5.out.size _) hown7 hg7); have z1 := Lib.cell_of_heap HNN.out.1 1; have zf : ∀ y, w7.frozen? ⟨P, y, none⟩ = false := (by intro y; have := HNN.out.1; simp [World.frozen?, this]); have zf1 := zf 1; unfold OwnL at hown7; obtain ⟨Av, cv, hv7⟩ := own_formP hown7; obtain ⟨m7, hm7⟩ : ∃ m, (xs ++ [l]).length = m := ⟨_, rfl⟩; rw [hm7] at hv7; clear hown7 hg7 hm7; subst hv7)
        | (go_simp; go_at_call 33; (with_reducible refine (HLT.out _ ?hbx).mono ?_); (case hbx => first | exact Below.refl _ _ | exact (Below.refl _ _).drew); rintro e w5 ⟨rfl, hb5⟩; have HB5 : Hid (Below wr.heap.size wr w5) := (by first | exact hb5 | exact ((Below.refl _ _).drew).trans hb5); have q1 := HKP.out _ HB5.out; have q2 : ∀ o, (w5.alloc o).cell? ⟨P, 1, none⟩ = some v := (fun o => HKP.out _ (HB5.out.alloc HB5.out.size o)); have q3 : ∀ o, (w5.drew.alloc o).cell? ⟨P, 1, none⟩ = some v := (fun o => HKP.out _ (HB5.out.drew.alloc HB5.out.size o)); clear hb5))
      all_goals
        go_wp2_with fail
        go_roundw
        case rel => exact HNN.out.2
        case measure => simp [intOf]; omega
    · obtain rfl : j = n := by omega
      have HN2 : Hid ((ws.take j).map letterM = ws.map letterM) := by unfold Hid; rw [List.take_of_length_le (by rw [HN.out]; exact Nat.le_refl _)]
      rw [HN2.out] at HO
      obtain ⟨Av, cv, rfl⟩ := own_formP (show wr.ownsRow _ _ _ v _ _ from HO.out)
      have hlen : (ws.map letterM).length = j := by rw [List.length_map]; exact HN.out
      rw [hlen] at HO HP
      have HL : Hid (LS wr Av j (ws.map letterM)) := ownL_ls HO.out hlen
      have HAv : Hid (∀ b off, Av = some ⟨b, off, none⟩ → b < wr.heap.size) := fun b off e => (World.ownsRow.lt HO.out b (by rw [e]; rfl)).2
      have HRR : Hid (wr.heap[R]? = some (.cells #[.int .i64 0, .slice none 0 0] 24 (0, 0))) := (HK.out R HPR.out.2.1 HPR.out.2.2.1).trans HR4.out
      have hj8 : j ≤ 8002 := by have := HWL.out.1; rw [HN.out] at this; exact this
      obtain ⟨pc, hpc⟩ : ∃ p : ByteArray, ⟨(printC hf (ws.map letterM)).toArray⟩ = p := ⟨_, rfl⟩
      have HPCE : Hid (pc.data.toList = printC hf (ws.map letterM)) := by rw [← hpc]; simp [Hid]
      have HPC : Hid (∀ W, Below wr.heap.size wr W → Calls Tryz.prog 7 #[.agg #[.int .i64 hf, .slice Av j cv]] W fun e w' => e = .returned (.string pc) ∧ Below W.heap.size W w') := by
        intro W hW
        rw [← hpc]
        exact codePrint_calls hf Av j cv (ws.map letterM) W (HT.out.itoa.below (HB.out.trans (hW.mono HB.out.size))) (HL.out.below hW) (by omega) HHI.out (fun l hl => by obtain ⟨x, _, rfl⟩ := List.mem_map.1 hl; exact letterM_ltI x)
      have HCO : Hid (∀ W, Below wr.heap.size wr W → Calls Tryz.prog 34 #[.string s, .string ⟨#[63]⟩] W fun e W' => e = .returned (.bool (decide ((63 : UInt8) ∈ s.data.toList))) ∧ Below W.heap.size W W') := fun W hW => HT.out.cont W (HB.out.trans (hW.mono HB.out.size)) s 63 (by omega)
      obtain ⟨ce, hce⟩ : ∃ ce, checkE hf (ws.map letterM) = ce := ⟨_, rfl⟩
      have HCK : Hid (∀ W, Below wr.heap.size wr W → Calls Tryz.prog 14 #[.agg #[.int .i64 hf, .slice Av j cv]] W fun e w' => e = .returned (.int .i64 ce) ∧ Below W.heap.size W w') := by
        intro W hW
        rw [← hce]
        exact check_calls hf Av j cv (ws.map letterM) W (HL.out.below hW) (fun b off e => Nat.lt_of_lt_of_le (HAv.out b off e) hW.size) (fun l hl => by obtain ⟨x, _, rfl⟩ := List.mem_map.1 hl; exact (letterM_ltI x).2.2)
      have HCE := Lib.hid hce
      have p0 := Lib.cell_of_heap HP.out 0
      have p1 := Lib.cell_of_heap HP.out 1
      go_wp2_with fail
      clear p0 p1
      have HKP : Hid (∀ W, Below wr.heap.size wr W → W.heap[P]? = some (.cells #[.int .i64 hf, .slice Av j cv] 24 (0, 0)) ∧ W.heap[R]? = some (.cells #[.int .i64 0, .slice none 0 0] 24 (0, 0)) ∧ Below w.heap.size w W) := fun W hW => ⟨(hW.block P (heap_ltP HP.out)).trans HP.out, (hW.block R (heap_ltP HRR.out)).trans HRR.out, HB.out.trans (hW.mono HB.out.size)⟩
      clear hpc hce hlen
      have hne : (pc = s) ↔ printC hf (ws.map letterM) = s.data.toList := by
        rw [← HPCE.out]
        refine ⟨fun q => by rw [q], fun q => ByteArray.ext (Array.ext' q)⟩
      have HNEQ := Lib.hid hne
      by_cases hps : pc = s
      · have hpb : (pc.toList == s.toList) = true := by rw [beq_iff_eq, hps]
        have HPS := Lib.hid (hne.1 hps)
        clear hne hps
        by_cases hq : (63 : UInt8) ∈ s.data.toList
        · have HQ := Lib.hid hq
          rw [decide_eq_true hq] at HCO
          clear hq
          refine (HPC.out _ (Below.refl _ _)).mono ?_
          rintro e w5 ⟨rfl, hb5⟩
          have HB5 := Lib.hid hb5
          clear hb5
          go_wp2_with fail
          refine (HCO.out _ HB5.out).mono ?_
          rintro e w6 ⟨rfl, hb6⟩
          have HB6 : Hid (Below wr.heap.size wr w6) := HB5.out.trans (hb6.mono HB5.out.size)
          clear hb6
          obtain ⟨k1, k2, kb⟩ := HKP.out _ HB6.out
          have HK1 := Lib.hid k1
          have HK2 := Lib.hid k2
          have HKB := Lib.hid kb
          have p0 := Lib.cell_of_heap k1 0
          have p1 := Lib.cell_of_heap k1 1
          have r0 := Lib.cell_of_heap k2 0
          have r1 := Lib.cell_of_heap k2 1
          have rf : ∀ y, w6.frozen? ⟨R, y, none⟩ = false := by intro y; simp [World.frozen?, k2]
          clear k1 k2 kb
          go_wp2_with fail
          obtain ⟨e0, e1, eb⟩ := res_endP HK2.out HRW.out HKB.out (.int .i64 0) (.slice none 0 0)
          refine bodyPost_ret (v := .tuple #[.agg #[.int .i64 0, .slice none 0 0], .int .i64 6]) (by simp [results, Tryz.results10, go_sem, e0, e1]) rfl ⟨eb, .inr (.inl ⟨h8, .inr HQ.out, rfl⟩)⟩
        · have HQ := Lib.hid hq
          rw [decide_eq_false hq] at HCO
          clear hq
          refine (HPC.out _ (Below.refl _ _)).mono ?_
          rintro e w5 ⟨rfl, hb5⟩
          have HB5 := Lib.hid hb5
          clear hb5
          go_wp2_with fail
          refine (HCO.out _ HB5.out).mono ?_
          rintro e w6 ⟨rfl, hb6⟩
          have HB6 : Hid (Below wr.heap.size wr w6) := HB5.out.trans (hb6.mono HB5.out.size)
          clear hb6
          obtain ⟨k1, _, _⟩ := HKP.out _ HB6.out
          have p0 := Lib.cell_of_heap k1 0
          have p1 := Lib.cell_of_heap k1 1
          clear k1
          go_wp2_with fail
          refine (HCK.out _ HB6.out).mono ?_
          rintro e w7 ⟨rfl, hb7⟩
          have HB7 : Hid (Below wr.heap.size wr w7) := HB6.out.trans (hb7.mono HB6.out.size)
          clear hb7 p0 p1
          by_cases hc0 : ce = 0
          · subst hc0
            obtain ⟨k1, k2, kb⟩ := HKP.out _ HB7.out
            have HK1 := Lib.hid k1
            have HK2 := Lib.hid k2
            have HKB := Lib.hid kb
            have p0 := Lib.cell_of_heap k1 0
            have p1 := Lib.cell_of_heap k1 1
            have r0 := Lib.cell_of_heap k2 0
            have r1 := Lib.cell_of_heap k2 1
            have rf : ∀ y, w7.frozen? ⟨R, y, none⟩ = false := by intro y; simp [World.frozen?, k2]
            clear k1 k2 kb
            go_wp2_with fail
            obtain ⟨e0, e1, eb⟩ := res_endP HK2.out HRW.out HKB.out (.int .i64 hf) (.slice Av j cv)
            refine bodyPost_ret (v := .tuple #[.agg #[.int .i64 hf, .slice Av j cv], .int .i64 0]) (by simp [results, Tryz.results10, go_sem, e0, e1]) rfl ⟨eb, .inr (.inr (.inr ⟨h8, ⟨by rw [← HHF.out, HWSS.out]; exact HPS.out, HQ.out⟩, by rw [← HHF.out, HWSS.out]; exact HCE.out, Av, j, cv, by rw [HHF.out], ?_⟩))⟩
            rw [HWSS.out]
            have hbR : ∀ b off, Av = some ⟨b, off, none⟩ → b ≠ R := fun b off e => by have h1 := HAv.out b off e; have h2 := (World.ownsRow.lt HO.out b (by rw [e]; rfl)).1; have h3 := HPR.out.2.1; omega
            exact LS.kept2 (LS.kept2 (HL.out.below HB7.out) (by simp [World.setCell]) (fun b off e _ => Below.heap_setCell _ _ _ b (hbR b off e))) (by simp [World.setCell]) (fun b off e _ => Below.heap_setCell _ _ _ b (hbR b off e))
          · have hcb : (ce != 0) = true := by rw [bne_iff_ne]; exact hc0
            have HC0 := Lib.hid hc0
            clear hc0
            obtain ⟨k1, k2, kb⟩ := HKP.out _ HB7.out
            have HK1 := Lib.hid k1
            have HK2 := Lib.hid k2
            have HKB := Lib.hid kb
            have p0 := Lib.cell_of_heap k1 0
            have p1 := Lib.cell_of_heap k1 1
            have r0 := Lib.cell_of_heap k2 0
            have r1 := Lib.cell_of_heap k2 1
            have rf : ∀ y, w7.frozen? ⟨R, y, none⟩ = false := by intro y; simp [World.frozen?, k2]
            clear k1 k2 kb
            go_wp2_with fail
            obtain ⟨e0, e1, eb⟩ := res_endP HK2.out HRW.out HKB.out (.int .i64 0) (.slice none 0 0)
            refine bodyPost_ret (v := .tuple #[.agg #[.int .i64 0, .slice none 0 0], .int .i64 ce]) (by simp [results, Tryz.results10, go_sem, e0, e1]) rfl ⟨eb, .inr (.inr (.inl ⟨h8, ⟨by rw [← HHF.out, HWSS.out]; exact HPS.out, HQ.out⟩, by rw [← HHF.out, HWSS.out, HCE.out]; exact HC0.out, by rw [← HHF.out, HWSS.out, HCE.out]⟩))⟩
      · have hpb : (pc.toList == s.toList) = false := by
          rw [beq_eq_false_iff_ne, ByteArray.toList_eq, ByteArray.toList_eq]
          intro q
          exact hps (ByteArray.ext (Array.ext' q))
        have HPS : Hid (¬ printC hf (ws.map letterM) = s.data.toList) := fun q => hps (hne.2 q)
        clear hne hps
        refine (HPC.out _ (Below.refl _ _)).mono ?_
        rintro e w6 ⟨rfl, hb6⟩
        have HB6 := Lib.hid hb6
        clear hb6
        obtain ⟨k1, k2, kb⟩ := HKP.out _ HB6.out
        have HK1 := Lib.hid k1
        have HK2 := Lib.hid k2
        have HKB := Lib.hid kb
        have p0 := Lib.cell_of_heap k1 0
        have p1 := Lib.cell_of_heap k1 1
        have r0 := Lib.cell_of_heap k2 0
        have r1 := Lib.cell_of_heap k2 1
        have rf : ∀ y, w6.frozen? ⟨R, y, none⟩ = false := by intro y; simp [World.frozen?, k2]
        clear k1 k2 kb
        go_wp2_with fail
        obtain ⟨e0, e1, eb⟩ := res_endP HK2.out HRW.out HKB.out (.int .i64 0) (.slice none 0 0)
        refine bodyPost_ret (v := .tuple #[.agg #[.int .i64 0, .slice none 0 0], .int .i64 6]) (by simp [results, Tryz.results10, go_sem, e0, e1]) rfl ⟨eb, .inr (.inl ⟨h8, .inl (by rw [← HHF.out, HWSS.out]; exact HPS.out), rfl⟩)⟩

set_option maxHeartbeats 1000000 in
theorem parseC_long (s : ByteArray) (w : World) (h8 : 8000 < s.size) : Calls Tryz.prog 10 #[.string s] w (ParsePostC s w) := by
  have h8i : (8000 : Int) < s.size := by omega
  go_enter Tryz.func10, Tryz.ntmps10
  go_wp2_with fail
  have h := heap_alloc_new w (.cells #[.int .i64 0, .slice none 0 0] 24)
  have e0 := Lib.cell_of_heap h 0
  have e1 := Lib.cell_of_heap h 1
  refine bodyPost_ret (v := .tuple #[.agg #[.int .i64 0, .slice none 0 0], .int .i64 7]) (by simp [results, Tryz.results10, go_sem, e0, e1]) rfl ⟨(Below.refl _ _).alloc (Nat.le_refl _) _, .inl ⟨h8, rfl⟩⟩
theorem parse_any (s : ByteArray) (w : World) (hT : LibW w) : Calls Tryz.prog 10 #[.string s] w (ParsePostC s w) := by
  rcases Nat.lt_or_ge 8000 s.size with h | h
  · exact parseC_long s w h
  · exact parseC_calls s w hT h

end Go.Proofs.YtplpccgbciglpaaGreatDoor
