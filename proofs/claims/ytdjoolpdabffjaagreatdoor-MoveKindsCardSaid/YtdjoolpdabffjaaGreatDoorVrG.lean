/- What single operations do: append, copy, clear, conversions, maps, iterators. -/
import Derived.Test.YtdjoolpdabffjaaGreatDoorVrF
import Derived.Laws.BytesString
namespace Go.Proofs.YtdjoolpdabffjaaGreatDoor.Vr
open Go Go.Region Go.RowKit
section
variable {P : Program} {N : Nat} {w0 w : World} {γ : Gm} {H H' : Hp}

theorem append_ok {s : St} {tys : Array TypeId} {T : TypeId} {x y v rx ry : Value} {es : List Ev} (h : vappend P s tys x y = some (.val v es)) (hx : VRel γ x rx) (hy : VRel γ y ry) (hR : Rel P N w0 γ H w) (hE : EvsOk H es H') :
    ∃ γ' rv w', Ext γ γ' ∧ VRel γ' v rv ∧ Rel P N w0 γ' H' w' ∧ (Builtin.append_ tys T #[rx, ry]).run P w = .ok rv w' := by
  unfold vappend at h
  split at h
  · rename_i sT xT ht0 ht1
    split at h
    · rename_i el ux hu hux
      split at h
      · rename_i i zs hi hz
        split at h
        · rename_i n new es0 hsrc
          split at h
          · rename_i hcond
            obtain ⟨hby, hn, hkind, hone, hnew, hzl⟩ := hcond
            obtain ⟨z, hzc, hzp, hzr⟩ := zero_of hz
            have hzs : z.cells.size = i.size := by rw [← hzl, ← hzc]; simp
            -- the events of the source come first
            have hes : ∃ es1, es = es0 ++ es1 := by
              unfold vgrow at h
              split at h
              · split at h <;> (cases h; first | exact ⟨[], (List.append_nil _).symm⟩ | exact ⟨_, rfl⟩)
              · split at h
                · cases h; exact ⟨_, rfl⟩
                · split at h
                  · split at h
                    · split at h
                      · split at h
                        · cases h; exact ⟨_, rfl⟩
                        · cases h
                      · cases h
                    · cases h
                  · cases h
              · cases h
            obtain ⟨es1, rfl⟩ := hes
            obtain ⟨H1, hE0, hE1⟩ := hE.split
            obtain ⟨rfl, rs, hvs, hs⟩ := src_ok hz hzc hsrc hnew hy hR hE0
            exact grow_ok ht0 ht1 hu hux hi hzr hzs hby hn hkind hone hnew hvs hs h hx hR (fun es2 he => by rw [List.append_cancel_left he] at hE1; exact hE1)
          · cases h
        · cases h
      · cases h
    · cases h
  · cases h

theorem copy_ok {s : St} {tys : Array TypeId} {T : TypeId} {x y v rx ry : Value} {es : List Ev} (h : vcopy P s tys x y = some (.val v es)) (hx : VRel γ x rx) (hy : VRel γ y ry) (hR : Rel P N w0 γ H w) (hE : EvsOk H es H') :
    ∃ rv w', VRel γ v rv ∧ Rel P N w0 γ H' w' ∧ (Builtin.copy_ tys T #[rx, ry]).run P w = .ok rv w' := by
  unfold vcopy at h
  split at h
  · rename_i dT ht0
    split at h
    · rename_i el hu
      split at h
      · rename_i size base dl dc hsz
        -- the destination
        have hdst : ∃ base' dc', rx = .slice base' dl dc' ∧ (match base with | none => base' = none | some ⟨b', off', none⟩ => ∃ I, γ b' = some I ∧ base' = some ⟨I.b, I.o + off', none⟩ | some ⟨_, _, some _⟩ => True) := by
          cases hx with
          | plain _ hp =>
            refine ⟨base, dc, rfl, ?_⟩
            cases base with
            | none => rfl
            | some a => simp [plainV] at hp
          | slice β off len cap k I hI hk hc => exact ⟨_, _, rfl, I, hI, rfl⟩
        obtain ⟨base', dc', rfl, hbase⟩ := hdst
        split at h
        · rename_i b off sl sc
          obtain ⟨J, k, hJ, hk, hc, rfl⟩ := hy.slice_inv
          simp only at h
          split at h
          · rename_i vs b' off' hvs _
            split at h
            · rename_i hone
              cases h
              simp only at hbase
              obtain ⟨I, hI, rfl⟩ := hbase
              have hlen := (read_spec hvs).1
              have main : ∀ w' (rs : List Value), VRels γ vs rs → (Builtin.firstCells size (Nat.min sl dl) (.slice (some ⟨J.b, J.o + off, none⟩) sl (sc + k))).run P w = .ok rs.toArray w → (storeCells ⟨I.b, I.o + off', none⟩ rs).run P w = .ok () w' →
                  (Builtin.copy_ tys T #[.slice (some ⟨I.b, I.o + off', none⟩) dl dc', .slice (some ⟨J.b, J.o + off, none⟩) sl (sc + k)]).run P w = .ok (goInt (Nat.min sl dl)) w' := by
                intro w' rs _ hf hs
                simp only [Builtin.copy_, ht0, List.getElem?_toArray, List.getElem?_cons_zero, List.getElem?_cons_succ, Sem.run_bind, run_und hu, Result.andThen_ok, Builtin.lenOf, Sem.run_pure, run_size hsz, hf, hs]
              have hread : ∀ {Hx : Hp}, EvOk H (.rd b off vs) Hx → Hx = H ∧ ∃ rs, VRels γ vs rs ∧ (Builtin.firstCells size (Nat.min sl dl) (.slice (some ⟨J.b, J.o + off, none⟩) sl (sc + k))).run P w = .ok rs.toArray w := by
                intro Hx g
                obtain ⟨hH, rs, hrs, hrange⟩ := hR.rd hJ g
                refine ⟨hH, rs, hrs, ?_⟩
                have := run_loadCells_list (P := P) w ⟨J.b, J.o + off, none⟩ rs (fun j v hv => by rw [Addr.add_mid]; exact hrange j v hv)
                rw [show rs.length = Nat.min sl dl * size by rw [← hrs.length, hlen]] at this
                exact this
              by_cases h0 : Nat.min sl dl * size = 0
              · rw [if_pos h0] at hE
                obtain ⟨H1, g1, g2⟩ := hE
                cases g2
                obtain ⟨rfl, rs, hrs, hf⟩ := hread g1
                have hnil : rs = [] := List.eq_nil_of_length_eq_zero (by rw [← hrs.length, hlen, h0])
                subst hnil
                exact ⟨_, w, .plain _ rfl, hR, main w [] hrs hf rfl⟩
              · rw [if_neg h0] at hE
                obtain ⟨H1, g1, H2, g2, g3⟩ := hE
                cases g3
                obtain ⟨rfl, rs, hrs, hf⟩ := hread g1
                obtain ⟨w', hs, hR'⟩ := hR.wr hI g2 hrs (hrs.ones hone)
                exact ⟨_, w', .plain _ rfl, hR', main w' rs hrs hf hs⟩
            · cases h
          · rename_i vs hvs _
            cases h
            simp only at hbase
            subst hbase
            obtain ⟨H1, g1, g2⟩ := hE
            cases g2
            have hlen := (read_spec hvs).1
            obtain ⟨rfl, rs, hrs, hrange⟩ := hR.rd hJ g1
            have hf : (Builtin.firstCells size (Nat.min sl dl) (.slice (some ⟨J.b, J.o + off, none⟩) sl (sc + k))).run P w = .ok rs.toArray w := by
              have := run_loadCells_list (P := P) w ⟨J.b, J.o + off, none⟩ rs (fun j v hv => by rw [Addr.add_mid]; exact hrange j v hv)
              rw [show rs.length = Nat.min sl dl * size by rw [← hrs.length, hlen]] at this
              exact this
            refine ⟨_, w, .plain _ rfl, hR, ?_⟩
            simp only [Builtin.copy_, ht0, List.getElem?_toArray, List.getElem?_cons_zero, List.getElem?_cons_succ, Sem.run_bind, run_und hu, Result.andThen_ok, Builtin.lenOf, Sem.run_pure, run_size hsz, hf]
            rfl
          · cases h
        · cases h
          cases hy.of_plainV rfl
          cases hE
          refine ⟨_, w, .plain _ rfl, hR, ?_⟩
          have h0 : Nat.min 0 dl = 0 := Nat.zero_min _
          simp only [Builtin.copy_, ht0, List.getElem?_toArray, List.getElem?_cons_zero, List.getElem?_cons_succ, Sem.run_bind, run_und hu, Result.andThen_ok, Builtin.lenOf, Sem.run_pure, run_size hsz, h0, Builtin.firstCells]
          cases base' <;> rfl
        · cases h
      · cases h
    · cases h
  · cases h

theorem clear_ok {tys : Array TypeId} {T : TypeId} {x v rx : Value} {es : List Ev} (h : vclear P tys x = some (.val v es)) (hx : VRel γ x rx) (hR : Rel P N w0 γ H w) (hE : EvsOk H es H') :
    v = undef ∧ ∃ w', Rel P N w0 γ H' w' ∧ (Builtin.clear_ tys T #[rx]).run P w = .ok undef w' := by
  unfold vclear at h
  split at h
  · rename_i dT ht0
    split at h
    · rename_i el hu
      split at h
      · rename_i z hz
        cases h
        cases hE
        cases hx.of_plainV rfl
        refine ⟨rfl, w, hR, ?_⟩
        simp only [Builtin.clear_, ht0, List.getElem?_toArray, List.getElem?_cons_zero, Sem.run_bind, run_und hu, Result.andThen_ok]
        rfl
      · rename_i zs b off n c hz
        obtain ⟨I, k, hI, hk, hc, rfl⟩ := hx.slice_inv
        obtain ⟨z, hzc, hzp, hzr⟩ := zero_of hz
        have main : ∀ w', (storeCells ⟨I.b, I.o + off, none⟩ (copies zs n)).run P w = .ok () w' → (Builtin.clear_ tys T #[.slice (some ⟨I.b, I.o + off, none⟩) n (c + k)]).run P w = .ok undef w' := by
          intro w' hs
          cases n with
          | zero =>
            simp only [copies, storeCells] at hs
            cases hs
            simp only [Builtin.clear_, ht0, List.getElem?_toArray, List.getElem?_cons_zero, Sem.run_bind, run_und hu, Result.andThen_ok]
            rfl
          | succ n =>
            simp only [Builtin.clear_, ht0, List.getElem?_toArray, List.getElem?_cons_zero, Sem.run_bind, run_und hu, Result.andThen_ok, hzr, zeroCells_eq, hzc, hs]
            rfl
        split at h
        · rename_i h0
          cases h
          cases hE
          have hnil : copies zs n = [] := List.eq_nil_of_length_eq_zero (by rw [copies_length, Nat.mul_comm]; exact h0)
          exact ⟨rfl, w, hR, main w (by rw [hnil]; rfl)⟩
        · cases h
          obtain ⟨H1, g1, g2⟩ := hE
          cases g2
          have hpl := copies_plain hzp n
          obtain ⟨w', hs, hR'⟩ := hR.wr hI g1 (VRels.plain hpl) (fun r hr => by
            have := List.all_eq_true.1 hpl r hr
            cases r <;> simp_all [plainV, Value.oneCell'])
          exact ⟨rfl, w', hR', main w' hs⟩
      · cases h
    · cases h
  · cases h

theorem bytesOf_spec : ∀ {vs : List Value} {l : List UInt8}, bytesOf vs = some l → ∃ ns : List Int, vs = ns.map (Value.int .u8) ∧ l = ns.map fun n => UInt8.ofNat n.toNat
  | [], l, h => by cases h; exact ⟨[], rfl, rfl⟩
  | v :: vs, l, h => by
    unfold bytesOf at h
    split at h
    · rename_i heq; cases heq
    · rename_i n r heq
      cases heq
      split at h
      · rename_i l' hl
        split at h
        · cases h
          obtain ⟨ns, rfl, rfl⟩ := bytesOf_spec hl
          exact ⟨n :: ns, rfl, rfl⟩
        · cases h
      · cases h
    · cases h

theorem foldl_push (ns : List Int) : ∀ b : ByteArray, ns.foldl (fun r n => r.push (UInt8.ofNat n.toNat)) b = ⟨(b.data.toList ++ ns.map fun n => UInt8.ofNat n.toNat).toArray⟩ := by
  induction ns with
  | nil => intro b; simp
  | cons n ns ih =>
    intro b
    simp only [List.foldl_cons]
    rw [ih]
    simp [ByteArray.push]

theorem convert_ok {s : St} {src dst : TypeId} {x v r : Value} {es : List Ev} (h : vconvert P s src dst x = some (.val v es)) (hx : VRel γ x r) (hR : Rel P N w0 γ H w) (hE : EvsOk H es H') :
    H' = H ∧ ∃ rv, VRel γ v rv ∧ (convert src dst r).run P w = .ok rv w := by
  unfold vconvert at h
  split at h
  · rename_i el b off n c hs hd
    obtain ⟨I, k, hI, hk, hc, rfl⟩ := hx.slice_inv
    split at h
    · rename_i he
      split at h
      · rename_i vs hvs
        split at h
        · rename_i l hl
          cases h
          obtain ⟨H1, g1, g2⟩ := hE
          cases g2
          obtain ⟨hH, rs, hrs, hrange⟩ := hR.rd hI g1
          obtain ⟨ns, rfl, rfl⟩ := bytesOf_spec hl
          have hpl : (ns.map (Value.int .u8)).all plainV = true := List.all_eq_true.2 fun v hv => by obtain ⟨_, _, rfl⟩ := List.mem_map.1 hv; rfl
          rw [hrs.of_plain hpl] at hrange
          have hload := run_loadCells_list (P := P) w ⟨I.b, I.o + off, none⟩ _ (fun j v hv => by rw [Addr.add_mid]; exact hrange j v hv)
          rw [(read_spec hvs).1] at hload
          refine ⟨hH, _, .plain _ rfl, ?_⟩
          rw [run_convert_bytes_string w src dst el _ n (c + k) hs he hd, run_bytesToString w _ n (c + k) ns hload, foldl_push]
          simp
        · cases h
      · cases h
    · cases h
  · cases h

theorem VRel.pointer' {b : Option Addr} {r : Value} (h : VRel γ (.pointer b) r) : ∃ b', r = .pointer b' ∧ b'.isNone = b.isNone := by
  cases h with
  | plain => exact ⟨b, rfl, rfl⟩
  | pointer β off I h => exact ⟨_, rfl, rfl⟩
theorem VRel.slice' {b : Option Addr} {l c : Nat} {r : Value} (h : VRel γ (.slice b l c) r) : ∃ b' c', r = .slice b' l c' ∧ b'.isNone = b.isNone := by
  cases h with
  | plain => exact ⟨b, c, rfl, rfl⟩
  | slice => exact ⟨_, _, rfl, rfl⟩
theorem VRel.map' {b : Option Nat} {r : Value} (h : VRel γ (.map b) r) : ∃ b', r = .map b' ∧ b'.isNone = b.isNone := by
  cases h with
  | plain => exact ⟨b, rfl, rfl⟩
  | map => exact ⟨_, rfl, rfl⟩
theorem VRel.func' {fn : Fn} {a b : Array Value} {r : Value} (h : VRel γ (.func fn a b) r) : ∃ a' b', r = .func fn a' b' := by
  cases h with
  | plain _ hp => simp [plainV] at hp
  | func => exact ⟨_, _, rfl⟩
theorem VRel.iface' {t : TypeId} {v r : Value} (h : VRel γ (.iface t v) r) : ∃ v', r = .iface t v' ∧ VRel γ v v' := by
  cases h with
  | plain _ hp => simp [plainV] at hp
  | iface _ _ v' h => exact ⟨v', rfl, h⟩

theorem bin_of_equal {t : TypeId} {x y : Value} {b : Bool} {ox oy : Operand} (he : (Op.equal t x y).run P w = .ok b w) (h1 : binOp .eql t x y = (do pure (.bool (← Op.equal t x y)))) (h2 : binOp .neq t x y = (do pure (.bool (!(← Op.equal t x y)))))
    (g1 : eqGuard .eql t ox oy x y = pure ()) (g2 : eqGuard .neq t ox oy x y = pure ()) :
    (do eqGuard .eql t ox oy x y; binOp .eql t x y : Sem Value).run P w = .ok (.bool b) w ∧ (do eqGuard .neq t ox oy x y; binOp .neq t x y : Sem Value).run P w = .ok (.bool (!b)) w := by
  rw [g1, g2, h1, h2]
  simp only [Sem.run_bind, Sem.run_pure, Result.andThen_ok, he, and_self]

theorem nil_ok {t : TypeId} {x y rx ry : Value} {b : Bool} (h : vnil P t x y = some b) (hx : VRel γ x rx) (hy : VRel γ y ry) (ox oy : Operand) :
    (do eqGuard .eql t ox oy rx ry; binOp .eql t rx ry : Sem Value).run P w = .ok (.bool b) w ∧ (do eqGuard .neq t ox oy rx ry; binOp .neq t rx ry : Sem Value).run P w = .ok (.bool (!b)) w := by
  have eqr : ∀ d, P.underlying t = some d → (Op.equal t rx ry).run P w = ((do let d ← (pure d : Sem TypeDesc); match d, rx, ry with
    | .pointer _, .pointer none, .pointer b => pure b.isNone
    | .pointer _, .pointer (some _), .pointer none => pure false
    | .slice _, .slice none _ _, .slice b _ _ => pure b.isNone
    | .slice _, .slice (some _) _ _, .slice none _ _ => pure false
    | .map _ _, .map none, .map b => pure b.isNone
    | .map _ _, .map (some _), .map none => pure false
    | .func _ _ _, .nilFunc, .nilFunc => pure true
    | .func _ _ _, .nilFunc, .func _ _ _ | .func _ _ _, .func _ _ _, .nilFunc => pure false
    | .interface _, .nilIface, .nilIface => pure true
    | .interface _, .nilIface, .iface _ _ | .interface _, .iface _ _, .nilIface => pure false
    | _, _, _ => Op.equal t rx ry : Sem Bool)).run P w := by
    intro d hd
    simp only [Sem.run_bind, Sem.run_pure, Result.andThen_ok]
    split <;> first | rfl | (
      show (Op.equalIn (9999 + 1) t _ _).run P w = _
      rw [Op.equalIn, Sem.run_bind, run_und hd, Result.andThen_ok])
  unfold vnil at h
  split at h
  · rename_i e hu
    have eqr := eqr _ hu
    split at h
    · cases h
      cases hx.of_plainV rfl
      obtain ⟨b', rfl, hb⟩ := hy.pointer'
      rw [← hb]
      exact bin_of_equal eqr rfl rfl rfl rfl
    · cases h
      cases hy.of_plainV rfl
      obtain ⟨b', rfl, hb⟩ := hx.pointer'
      cases b' with
      | none => cases hb
      | some a => exact bin_of_equal eqr rfl rfl rfl rfl
    · cases h
  · rename_i e hu
    have eqr := eqr _ hu
    split at h
    · cases h
      obtain ⟨b1, c1, rfl, hb1⟩ := hx.slice'
      obtain ⟨b', c2, rfl, hb⟩ := hy.slice'
      rw [← hb]
      cases b1 with
      | none => exact bin_of_equal eqr rfl rfl rfl rfl
      | some a => cases hb1
    · cases h
      obtain ⟨b1, c1, rfl, hb1⟩ := hx.slice'
      obtain ⟨b', c2, rfl, hb⟩ := hy.slice'
      cases b1 with
      | none => cases hb1
      | some a =>
        cases b' with
        | none => exact bin_of_equal eqr rfl rfl rfl rfl
        | some a => cases hb
    · cases h
  · rename_i e1 e2 hu
    have eqr := eqr _ hu
    split at h
    · cases h
      cases hx.of_plainV rfl
      obtain ⟨b', rfl, hb⟩ := hy.map'
      rw [← hb]
      exact bin_of_equal eqr rfl rfl rfl rfl
    · cases h
      cases hy.of_plainV rfl
      obtain ⟨b', rfl, hb⟩ := hx.map'
      cases b' with
      | none => cases hb
      | some a => exact bin_of_equal eqr rfl rfl rfl rfl
    · cases h
  · rename_i e1 e2 e3 hu
    have eqr := eqr _ hu
    split at h
    · cases h
      cases hx.of_plainV rfl
      obtain ⟨a', b', rfl⟩ := hy.func'
      exact bin_of_equal eqr rfl rfl rfl rfl
    · cases h
      cases hy.of_plainV rfl
      obtain ⟨a', b', rfl⟩ := hx.func'
      exact bin_of_equal eqr rfl rfl rfl rfl
    · cases h
  · rename_i e1 hu
    have eqr := eqr _ hu
    split at h
    · cases h
      cases hx.of_plainV rfl
      obtain ⟨v', rfl, _⟩ := hy.iface'
      exact bin_of_equal eqr rfl rfl rfl rfl
    · cases h
      cases hy.of_plainV rfl
      obtain ⟨v', rfl, _⟩ := hx.iface'
      exact bin_of_equal eqr rfl rfl rfl rfl
    · cases h
  · cases h

theorem calm_ok {α : Type} : ∀ {x : Sem α} {a : α}, calm P x = some a → x.run P w = .ok a w := by
  intro x
  induction x with
  | pure b => intro a h; cases h; rfl
  | program k ih => intro a h; exact ih P h
  | _ => intro a h; cases h

/-! ### Maps, iterators -/
def MRel (γ : Gm) (es : List (Value × Value)) (me : List MapEntry) : Prop := es.length = me.length ∧ ∀ (j : Nat) (k v : Value) (e : MapEntry), es[j]? = some (k, v) → me[j]? = some e → e.key = k ∧ VRel γ v e.val

theorem MRel.cons_inv {k v : Value} {es : List (Value × Value)} {me : List MapEntry} (h : MRel γ ((k, v) :: es) me) : ∃ e me', me = e :: me' ∧ e.key = k ∧ VRel γ v e.val ∧ MRel γ es me' := by
  cases me with
  | nil => exact absurd h.1 (by simp)
  | cons e me' =>
    obtain ⟨h1, h2⟩ := h.2 0 k v e rfl rfl
    exact ⟨e, me', rfl, h1, h2, by simpa using h.1, fun j k v e hj he => h.2 (j + 1) k v e (by simpa using hj) (by simpa using he)⟩

theorem find_ok {kd : TypeDesc} {k : Value} : ∀ {es : List (Value × Value)} {me : List MapEntry} {i : Nat} {o : Option (Nat × Value)}, vfind kd k es i = some o → MRel γ es me →
    ∃ o', Instr.findNow kd k me i = some o' ∧ (match o, o' with | none, none => True | some (j, v), some (j', v') => j = j' ∧ VRel γ v v' ∧ i ≤ j ∧ ∃ kk, es[j - i]? = some (kk, v) ∧ Instr.sameNow kd k kk = some true | _, _ => False)
  | [], me, i, o, h, hm => by
    cases h
    have : me = [] := List.eq_nil_of_length_eq_zero hm.1.symm
    subst this
    exact ⟨none, rfl, trivial⟩
  | (k', v) :: es, me, i, o, h, hm => by
    obtain ⟨e, me', rfl, rfl, hv, hr⟩ := hm.cons_inv
    simp only [vfind] at h
    split at h
    · rename_i hs
      cases h
      exact ⟨some (i, e.val), by simp [Instr.findNow, hs], rfl, hv, Nat.le_refl _, e.key, by simp, hs⟩
    · rename_i hs
      obtain ⟨o', ho, hrel⟩ := find_ok h hr
      refine ⟨o', by simp [Instr.findNow, hs, ho], ?_⟩
      cases o with
      | none => cases o' <;> simp_all
      | some p =>
        obtain ⟨j, u⟩ := p
        cases o' with
        | none => exact hrel
        | some q =>
          obtain ⟨j', u'⟩ := q
          obtain ⟨h1, h2, h3, kk, h4, h5⟩ := hrel
          exact ⟨h1, h2, by omega, kk, by rw [show j - i = (j - (i + 1)) + 1 by omega]; simpa using h4, h5⟩
    · cases h

end
end Go.Proofs.YtdjoolpdabffjaaGreatDoor.Vr
