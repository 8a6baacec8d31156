/- A virtual run of the program's text: definitions. -/
import Derived.Orders
import Derived.LoopN
import Derived.Scope
import Derived.Below
namespace Go.Proofs.YtdjoolpdabffjaaGreatDoor.Vr
open Go Go.Region

def force {α : Type} (n : Nat) (k : Nat → α) : α := match n with | 0 => k 0 | m + 1 => k (m + 1)
theorem force_eq {α : Type} (n : Nat) (k : Nat → α) : force n k = k n := by cases n <;> rfl

/-- A trie with numbers as keys. -/
inductive Tr (α : Type) where
  | e
  | n (v : Option α) (l r : Tr α)

/- By their recursors: the kernel goes through them three times as fast. -/
noncomputable def Tr.get {α : Type} (t : Tr α) : Nat → Option α :=
  @Tr.rec α (fun _ => Nat → Option α) (fun _ => none) (fun v _ _ gl gr k => @Nat.rec (fun _ => Option α) v (fun m _ => @Bool.rec (fun _ => Option α) (gr (m / 2)) (gl (m / 2)) (Nat.beq (m % 2) 0)) k) t

noncomputable def Tr.put {α : Type} (f : Nat) : Tr α → Nat → α → Tr α :=
  @Nat.rec (fun _ => Tr α → Nat → α → Tr α) (fun t _ _ => t) (fun _ ih t k x =>
    @Tr.rec α (fun _ => Tr α)
      (@Nat.rec (fun _ => Tr α) (.n (some x) .e .e) (fun m _ => @Bool.rec (fun _ => Tr α) (.n none .e (ih .e (m / 2) x)) (.n none (ih .e (m / 2) x) .e) (Nat.beq (m % 2) 0)) k)
      (fun v l r _ _ => @Nat.rec (fun _ => Tr α) (.n (some x) l r) (fun m _ => @Bool.rec (fun _ => Tr α) (.n v l (ih r (m / 2) x)) (.n v (ih l (m / 2) x) r) (Nat.beq (m % 2) 0)) k) t) f

theorem beq0 {α : Type} (n : Nat) (x y : α) : (@Bool.rec (fun _ => α) y x (Nat.beq n 0)) = (match n with | 0 => x | _ + 1 => y) := by cases n <;> rfl
theorem Tr.get_e {α : Type} (k : Nat) : (Tr.e : Tr α).get k = none := rfl
theorem Tr.get_0 {α : Type} (v : Option α) (l r : Tr α) : (Tr.n v l r).get 0 = v := rfl
theorem Tr.get_s {α : Type} (v : Option α) (l r : Tr α) (m : Nat) : (Tr.n v l r).get (m + 1) = (match m % 2 with | 0 => l.get (m / 2) | _ + 1 => r.get (m / 2)) := beq0 _ _ _
theorem Tr.put_z {α : Type} (t : Tr α) (k : Nat) (x : α) : Tr.put 0 t k x = t := rfl
theorem Tr.put_e0 {α : Type} (f : Nat) (x : α) : Tr.put (f + 1) .e 0 x = .n (some x) .e .e := rfl
theorem Tr.put_es {α : Type} (f m : Nat) (x : α) : Tr.put (f + 1) .e (m + 1) x = (match m % 2 with | 0 => .n none (Tr.put f .e (m / 2) x) .e | _ + 1 => .n none .e (Tr.put f .e (m / 2) x)) := beq0 _ _ _
theorem Tr.put_n0 {α : Type} (f : Nat) (v : Option α) (l r : Tr α) (x : α) : Tr.put (f + 1) (.n v l r) 0 x = .n (some x) l r := rfl
theorem Tr.put_ns {α : Type} (f m : Nat) (v : Option α) (l r : Tr α) (x : α) : Tr.put (f + 1) (.n v l r) (m + 1) x = (match m % 2 with | 0 => .n v (Tr.put f l (m / 2) x) r | _ + 1 => .n v l (Tr.put f r (m / 2) x)) := beq0 _ _ _

noncomputable section
structure Blk where
  cells : List Value
  elem : TypeId
  exact : Bool
  ro : Bool

inductive Slot where
  | dead
  | live (x : Blk)
  | iter (s : ByteArray) (pos : Nat)
  | map (es : List (Value × Value))

inductive Ev where
  | rd (b off : Nat) (vs : List Value)
  | wr (b off : Nat) (vs : List Value)
  | new (b : Nat) (x : Slot)
  | kill (b : Nat)
  | info (b : Nat) (elem : TypeId) (exact : Bool)
  | look (b : Nat) (x : Slot)
  | obj (b : Nat) (x y : Slot)

structure St where
  n : Nat
  h : Tr Slot

def bits : Nat := 24
def top : Nat := 16777215

def overlay : List Value → Nat → List Value → List Value
  | cs, 0, vs => vs ++ cs.drop vs.length
  | c :: cs, k + 1, vs => c :: overlay cs k vs
  | [], _ + 1, _ => []

def St.read (s : St) (b off n : Nat) : Option (List Value) :=
  match s.h.get b with
  | some (.live x) =>
    let c := (x.cells.drop off).take n
    if c.length = n then some c else none
  | _ => none

def St.step (s : St) : Ev → Option St
  | .rd _ _ _ => some s
  | .wr b off vs => match s.h.get b with
    | some (.live x) => if x.ro then none else if off + vs.length ≤ x.cells.length ∧ b < top then some { s with h := s.h.put bits b (.live { x with cells := overlay x.cells off vs }) } else none
    | _ => none
  | .new b x => if b = s.n ∧ b < top then force (b + 1) fun m => some { n := m, h := s.h.put bits b x } else none
  | .kill b => match s.h.get b with
    | some (.live x) => if x.ro = false ∧ b < top then some { s with h := s.h.put bits b .dead } else none
    | _ => none
  | .info _ _ _ => some s
  | .look _ _ => some s
  | .obj b _ y => match s.h.get b with
    | some (.iter _ _) | some (.map _) => if b < top then some { s with h := s.h.put bits b y } else none
    | _ => none

def St.steps (s : St) : List Ev → Option St
  | [] => some s
  | e :: es => match s.step e with
    | some s' => s'.steps es
    | none => none

/-- A value without an address. -/
def plainV : Value → Bool
  | .bool _ | .int _ _ | .float _ _ | .complex _ _ _ | .string _ | .pointer none | .nilFunc | .nilIface => true
  | .slice none 0 0 => true
  | .map none => true
  | .chan none => true
  | _ => false

def plainC (v : Value) : Bool := match v with
  | .agg cs => cs.toList.all plainV
  | .tuple cs => cs.toList.all plainV
  | v => plainV v

/-- The value of a tree that touches no memory. -/
def calm {α : Type} (P : Program) : Sem α → Option α
  | .pure a => some a
  | .program k => calm P (k P)
  | _ => none

structure VA where
  n : Nat
  g : Nat
  t : Tr Value

def VA.eval (a : VA) : Operand → Option Value
  | .tmp t => match a.t.get t with | some v => some v | none => some undef
  | .const v => if plainC v then some v else none
  | .global g => if g < a.g then some (.pointer (some ⟨g, 0, none⟩)) else none
  | .func f => some (.func (.func f) #[] #[])

def VA.put (a : VA) (dst : Option Tmp) (v : Value) : Option VA :=
  match dst with
  | none => some a
  | some d => if d < a.n ∧ d < top then some { a with t := a.t.put bits d v } else none

inductive VR where
  | val (v : Value) (es : List Ev)
  | call (f : FuncId) (args : List Value)

def oneCell : Value → Bool
  | .agg _ | .tuple _ => false
  | _ => true

def oneCells (vs : List Value) : Bool := vs.all oneCell

def zeroOf (P : Program) (t : TypeId) : Option (List Value) :=
  match P.info? t with
  | some i => match i.zero with
    | some z => if z.cells.toList.all plainV then some z.cells.toList else none
    | none => none
  | none => none

def sizeT (P : Program) (t : TypeId) : Option Nat := (P.info? t).map (·.size)

def vload (P : Program) (s : St) (t : TypeId) : Value → Option VR
  | .pointer (some ⟨b, off, none⟩) =>
    match P.underlying t with
    | none => none
    | some (.struct _) | some (.array _ _) =>
      match sizeT P t with
      | some n => match s.read b off n with
        | some vs => some (.val (.agg vs.toArray) [.rd b off vs])
        | none => none
      | none => none
    | some _ => match s.read b off 1 with
      | some [v] => some (.val v [.rd b off [v]])
      | _ => none
  | _ => none

def vstore (P : Program) (t : TypeId) (v : Value) : Value → Option VR
  | .pointer (some ⟨b, off, none⟩) =>
    match sizeT P t with
    | some n => if v.cells.size = n ∧ oneCells v.cells.toList = true then some (.val undef (if n = 0 then [] else [.wr b off v.cells.toList])) else none
    | none => none
  | _ => none

def addA (b off k : Nat) : Value := .pointer (some ⟨b, off + k, none⟩)

def vfieldAddr (P : Program) (t : TypeId) (f : Nat) : Value → Option VR
  | .pointer (some ⟨b, off, none⟩) =>
    match P.underlying t with
    | some (.struct fields) => match fields[f]? with
      | some fd => match sizeT P fd.type with
        | some (_ + 1) => some (.val (addA b off fd.offset) [])
        | _ => none
      | none => none
    | _ => none
  | _ => none

def vindexAddr (P : Program) (t : TypeId) : Value → Value → Option VR
  | x, .int _ i =>
    match P.underlying t, x with
    | some (.slice el), .slice (some ⟨b, off, none⟩) len _ =>
      match sizeT P el with
      | some n => if 0 ≤ i ∧ i < len then some (.val (addA b off (i.toNat * n)) []) else none
      | none => none
    | some (.array len el), .pointer (some ⟨b, off, none⟩) =>
      match sizeT P el with
      | some n => if 0 ≤ i ∧ i < len then some (.val (addA b off (i.toNat * n)) []) else none
      | none => none
    | _, _ => none
  | _, _ => none

def partV (P : Program) (t : TypeId) (cs : Array Value) (off : Nat) : Option Value :=
  match P.underlying t with
  | none => none
  | some (.struct _) | some (.array _ _) => match sizeT P t with
    | some n => some (.agg (cs.extract off (off + n)))
    | none => none
  | some _ => cs[off]?

def vfield (P : Program) (t : TypeId) (f : Nat) : Value → Option VR
  | .agg cs => match P.underlying t with
    | some (.struct fields) => match fields[f]? with
      | some fd => (partV P fd.type cs fd.offset).map (VR.val · [])
      | none => none
    | _ => none
  | _ => none

def vindex (P : Program) (t : TypeId) : Value → Value → Option VR
  | .agg cs, .int _ i => match P.underlying t with
    | some (.array len el) => match sizeT P el with
      | some n => if 0 ≤ i ∧ i < len then (partV P el cs (i.toNat * n)).map (VR.val · []) else none
      | none => none
    | _ => none
  | .string s, .int _ i => match P.underlying t with
    | some .string => match (if 0 ≤ i then s[i.toNat]? else none) with
      | some b => some (.val (.int .u8 b.toNat) [])
      | none => none
    | _ => none
  | _, _ => none

def vextract (ix : Nat) : Value → Option VR
  | .tuple vs => vs[ix]?.map (VR.val · [])
  | _ => none

def places (P : Program) : List Field → Option (List (Nat × Nat))
  | [] => some []
  | f :: fs => match sizeT P f.type, places P fs with
    | some n, some r => some ((f.offset, n) :: r)
    | _, _ => none

/-- 'Instr.fill' over lists. -/
def fillV (place : Nat → Option (Nat × Nat)) (cells : List Value) : List (Nat × Value) → Option (List Value)
  | [] => some cells
  | (i, v) :: rest => match place i with
    | none => none
    | some (off, size) =>
      if v.cells.size ≠ size ∨ off + v.cells.size > cells.length then none
      else fillV place (overlay cells off v.cells.toList) rest

def vbuild (P : Program) (t : TypeId) (parts : List (Nat × Value)) : Option VR :=
  match zeroOf P t with
  | none => none
  | some zero => match P.underlying t with
    | some (.struct fields) => match places P fields.toList with
      | none => none
      | some pl => match fillV (pl[·]?) zero parts with
        | some cs => some (.val (.agg cs.toArray) [])
        | none => none
    | some (.array _ el) => match sizeT P el with
      | some n => match fillV (fun i => some (i * n, n)) zero parts with
        | some cs => some (.val (.agg cs.toArray) [])
        | none => none
      | none => none
    | _ => none

/-- k copies of a list. -/
def copies (z : List Value) : Nat → List Value
  | 0 => []
  | k + 1 => z ++ copies z k

def vbuildSlice (P : Program) (s : St) (t : TypeId) (len : Nat) (parts : List (Nat × Value)) : Option VR :=
  match P.underlying t with
  | some (.slice el) => match sizeT P el, zeroOf P el with
    | some n, some zero =>
      if len * n ≤ 4096 ∧ zero.length = n then match fillV (fun i => some (i * n, n)) (copies zero len) parts with
        | some cs => some (.val (.slice (some ⟨s.n, 0, none⟩) len len) [.new s.n (.live { cells := cs, elem := el, exact := true, ro := false })])
        | none => none
      else none
    | _, _ => none
  | _ => none

def vmakeSlice (P : Program) (s : St) (t : TypeId) : Value → Value → Option VR
  | .int .i64 l, .int .i64 c => match P.underlying t with
    | some (.slice el) => match P.info? el, zeroOf P el with
      | some i, some zero =>
        if 0 ≤ l ∧ l ≤ c ∧ c ≤ 4096 ∧ i.bytes ≤ 4096 ∧ zero.length = i.size then
          some (.val (.slice (some ⟨s.n, 0, none⟩) l.toNat c.toNat) [.new s.n (.live { cells := copies zero c.toNat, elem := el, exact := true, ro := false })])
        else none
      | _, _ => none
    | _ => none
  | _, _ => none

def boundV (d : Nat) : Option Value → Option Nat
  | none => some d
  | some (.int _ i) => if 0 ≤ i then some i.toNat else none
  | some _ => none

/-- A slice expression. -/
def vslice (P : Program) (s : St) (t : TypeId) (x : Value) (lo hi mx : Option Value) : Option VR :=
  if mx.isSome ∧ hi.isNone then none else
  match P.underlying t, x with
  | some .string, .string st => match boundV 0 lo, boundV st.size hi, mx with
    | some l, some h, none => if l ≤ h ∧ h ≤ st.size then some (.val (.string (st.extract l h)) []) else none
    | _, _, _ => none
  | some (.slice el), .slice none 0 0 => match sizeT P el, boundV 0 lo, boundV 0 hi, boundV 0 mx with
    | some _, some 0, some 0, some 0 => some (.val (.slice none 0 0) [])
    | _, _, _, _ => none
  | some (.slice el), .slice (some ⟨b, off, none⟩) len cap => match sizeT P el, boundV 0 lo, boundV len hi, boundV cap mx with
    | some n, some l, some h, some m =>
      if l ≤ h ∧ h ≤ m ∧ m ≤ cap then
        if l = 0 then some (.val (.slice (some ⟨b, off, none⟩) h m) [])
        else match s.h.get b with
          | some (.live x) =>
            if x.exact = true ∨ (x.elem = el ∧ (l < m ∨ mx.isSome = true)) then
              some (.val (.slice (some ⟨b, if m = l then off else off + l * n, none⟩) (h - l) (m - l)) [.info b x.elem x.exact])
            else none
          | _ => none
      else none
    | _, _, _, _ => none
  | some (.array k el), .pointer (some ⟨b, off, none⟩) => match sizeT P el, boundV 0 lo, boundV k hi, boundV k mx with
    | some n, some l, some h, some m =>
      if l ≤ h ∧ h ≤ m ∧ m ≤ k then some (.val (.slice (some ⟨b, if m = l then off else off + l * n, none⟩) (h - l) (m - l)) []) else none
    | _, _, _, _ => none
  | _, _ => none

/-- '==' with nil on one side at least. -/
def vnil (P : Program) (t : TypeId) (x y : Value) : Option Bool :=
  match P.underlying t with
  | some (.pointer _) => match x, y with
    | .pointer none, .pointer b => some b.isNone
    | .pointer (some _), .pointer none => some false
    | _, _ => none
  | some (.slice _) => match x, y with
    | .slice none _ _, .slice b _ _ => some b.isNone
    | .slice (some _) _ _, .slice none _ _ => some false
    | _, _ => none
  | some (.map _ _) => match x, y with
    | .map none, .map b => some b.isNone
    | .map (some _), .map none => some false
    | _, _ => none
  | some (.func _ _ _) => match x, y with
    | .nilFunc, .func _ _ _ => some false
    | .func _ _ _, .nilFunc => some false
    | _, _ => none
  | some (.interface _) => match x, y with
    | .nilIface, .iface _ _ => some false
    | .iface _ _, .nilIface => some false
    | _, _ => none
  | _ => none

def vbin (P : Program) (E : Sem Next) (op : BinOp) (t : TypeId) (x y : Value) : Option VR :=
  if plainC x ∧ plainC y then
    match calm P E with
    | some (.value v) => if plainC v then some (.val v []) else none
    | _ => none
  else match op with
    | .eql => (vnil P t x y).map fun b => .val (.bool b) []
    | .neq => (vnil P t x y).map fun b => .val (.bool (!b)) []
    | _ => none

def vlen (P : Program) (t : TypeId) : Value → Option VR
  | x => match P.underlying t, x with
    | some (.slice _), .slice _ n _ => some (.val (.int .i64 n) [])
    | some .string, .string s => some (.val (.int .i64 s.size) [])
    | some (.array n _), _ => some (.val (.int .i64 n) [])
    | _, _ => none

def vcap (P : Program) (s : St) (t : TypeId) : Value → Option VR
  | x => match P.underlying t, x with
    | some (.slice _), .slice none 0 0 => some (.val (.int .i64 0) [])
    | some (.slice _), .slice (some ⟨b, _, none⟩) _ c => match s.h.get b with
      | some (.live { exact := true, elem := e, .. }) => some (.val (.int .i64 c) [.info b e true])
      | _ => none
    | _, _ => none

/-- The cells of what is appended: how many elements, the cells, the events. -/
def vsource (s : St) (size : Nat) : Value → Option (Nat × List Value × List Ev)
  | .slice none 0 0 => some (0, [], [])
  | .slice (some ⟨b, off, none⟩) n _ => match s.read b off (n * size) with
    | some vs => some (n, vs, [.rd b off vs])
    | none => none
  | .string st => some (st.size, st.data.toList.map fun b => .int .u8 b.toNat, [])
  | _ => none

/-- 'append(x, make(.., n)...)'. -/
def vzeros (P : Program) (el : TypeId) : Value → Option (Nat × List Value × List Ev)
  | .int .i64 n => match zeroOf P el with
    | some z => if 0 ≤ n ∧ n ≤ 4096 then some (n.toNat, copies z n.toNat, []) else none
    | none => none
  | _ => none

/-- The end of an append: the slice x, n elements more, whose cells are 'new'. -/
def vgrow (s : St) (el : TypeId) (size n : Nat) (new : List Value) (es : List Ev) : Value → Option VR
  | .slice none 0 0 =>
    match n with
    | 0 => some (.val (.slice none 0 0) es)
    | _ + 1 => some (.val (.slice (some ⟨s.n, 0, none⟩) n n) (es ++ [.new s.n (.live { cells := new, elem := el, exact := false, ro := false })]))
  | .slice (some ⟨b, off, none⟩) len cap =>
    if len + n ≤ cap then
      some (.val (.slice (some ⟨b, off, none⟩) (len + n) cap) (es ++ if n * size = 0 then [] else [.wr b (off + len * size) new]))
    else if len + n ≤ 4096 then
      match s.h.get b with
      | some (.live xb) => match s.read b off (len * size) with
        | some old =>
          if xb.elem = el then
            some (.val (.slice (some ⟨s.n, 0, none⟩) (len + n) (len + n)) (es ++ ([.rd b off old, .info b el xb.exact] ++ ((if xb.exact then [] else [.kill b]) ++ [.new s.n (.live { cells := old ++ new, elem := el, exact := false, ro := false })]))))
          else none
        | none => none
      | _ => none
    else none
  | _ => none

def isInt : TypeDesc → Bool
  | .int _ => true
  | _ => false

def srcKind : TypeDesc → Bool
  | .int _ | .slice _ | .string => true
  | _ => false

def vappend (P : Program) (s : St) (argTypes : Array TypeId) (x y : Value) : Option VR :=
  match argTypes[0]?, argTypes[1]? with
  | some st, some xt =>
    match P.underlying st, P.underlying xt with
    | some (.slice el), some ux =>
      match P.info? el, zeroOf P el with
      | some i, some z =>
        match (if isInt ux then vzeros P el y else vsource s i.size y) with
        | some (n, new, es) =>
          if i.bytes ≤ 4096 ∧ n ≤ 4096 ∧ srcKind ux = true ∧ oneCells new = true ∧ new.length = n * i.size ∧ z.length = i.size then vgrow s el i.size n new es x else none
        | none => none
      | _, _ => none
    | _, _ => none
  | _, _ => none

def vcopy (P : Program) (s : St) (argTypes : Array TypeId) (x y : Value) : Option VR :=
  match argTypes[0]? with
  | some dt => match P.underlying dt with
    | some (.slice el) => match sizeT P el, x with
      | some size, .slice base dl _ =>
        match y with
        | .slice (some ⟨b, off, none⟩) sl _ =>
          let n := Nat.min sl dl
          match s.read b off (n * size), base with
          | some vs, some ⟨b', off', none⟩ => if oneCells vs then some (.val (.int .i64 n) (if n * size = 0 then [.rd b off vs] else [.rd b off vs, .wr b' off' vs])) else none
          | some vs, none => some (.val (.int .i64 n) [.rd b off vs])
          | _, _ => none
        | .slice none 0 0 => some (.val (.int .i64 0) [])
        | _ => none
      | _, _ => none
    | _ => none
  | none => none

def bytesOf : List Value → Option (List UInt8)
  | [] => some []
  | .int .u8 n :: r => match bytesOf r with
    | some l => if 0 ≤ n ∧ n < 256 then some (UInt8.ofNat n.toNat :: l) else none
    | none => none
  | _ :: _ => none

def vconvert (P : Program) (s : St) (src dst : TypeId) (x : Value) : Option VR :=
  match P.underlying src, P.underlying dst, x with
  | some (.slice el), some .string, .slice (some ⟨b, off, none⟩) n _ => match P.underlying el with
    | some (.int .u8) => match s.read b off n with
      | some vs => match bytesOf vs with
        | some l => some (.val (.string ⟨l.toArray⟩) [.rd b off vs])
        | none => none
      | none => none
    | _ => none
  | _, _, _ => none

def vclear (P : Program) (argTypes : Array TypeId) (x : Value) : Option VR :=
  match argTypes[0]? with
  | some dt => match P.underlying dt with
    | some (.slice el) => match zeroOf P el, x with
      | some _, .slice none 0 0 => some (.val undef [])
      | some z, .slice (some ⟨b, off, none⟩) n _ => if z.length * n = 0 then some (.val undef []) else some (.val undef [.wr b off (copies z n)])
      | _, _ => none
    | _ => none
  | none => none

def seqO {α : Type} : List (Option α) → Option (List α)
  | [] => some []
  | some x :: r => match seqO r with | some l => some (x :: l) | none => none
  | none :: _ => none

def plainOper (P : Program) (E : Sem Next) (xs : List Value) : Option VR :=
  if xs.all plainC then
    match calm P E with
    | some (.value v) => if plainC v then some (.val v []) else none
    | _ => none
  else none

def callee (P : Program) : Value → List Value → Option VR
  | .func (.func g) first captured, args =>
    match P.funcs[g]? with
    | some fn => if fn.body.isSome ∧ fn.name ≠ "runtime.NumGoroutine" then some (.call g (first.toList ++ args ++ captured.toList)) else none
    | none => none
  | _, _ => none

def vnext (s : St) : Value → Option VR
  | .pointer (some ⟨b, 0, none⟩) => match s.h.get b with
    | some (.iter st pos) =>
      if pos < st.size then
        let cw := Utf8.decode st pos
        some (.val (.tuple #[.bool true, .int .i64 pos, .int .i32 cw.1]) [.obj b (.iter st pos) (.iter st (pos + cw.2))])
      else some (.val (.tuple #[.bool false]) [.look b (.iter st pos)])
    | _ => none
  | _ => none

/-- The entry of a key: its place, and its value. -/
def vfind (kind : TypeDesc) (k : Value) : List (Value × Value) → Nat → Option (Option (Nat × Value))
  | [], _ => some none
  | (k', v) :: es, i => match Instr.sameNow kind k k' with
    | some true => some (some (i, v))
    | some false => vfind kind k es (i + 1)
    | none => none

def setNth {α : Type} : List α → Nat → α → List α
  | [], _, _ => []
  | _ :: l, 0, x => x :: l
  | y :: l, n + 1, x => y :: setNth l n x

def keyKind : TypeDesc → Bool
  | .int _ | .string | .bool => true
  | _ => false

def vlookup (P : Program) (s : St) (t : TypeId) (x k : Value) (ok : Bool) : Option VR :=
  match P.underlying t with
  | some (.map kt et) => match P.underlying kt, x with
    | some kd, .map (some b) => match s.h.get b with
      | some (.map es) => if keyKind kd = true ∧ plainV k = true then match vfind kd k es 0 with
        | some (some (_, v)) => some (.val (if ok then .tuple #[v, .bool true] else v) [.look b (.map es)])
        | some none => match (P.info? et).bind (·.zero) with
          | some z => if plainC z then some (.val (if ok then .tuple #[z, .bool false] else z) [.look b (.map es)]) else none
          | none => none
        | none => none else none
      | _ => none
    | _, _ => none
  | _ => none

def vmapUpdate (P : Program) (s : St) (t : TypeId) (x k v : Value) : Option VR :=
  match P.underlying t with
  | some (.map kt _) => match P.underlying kt, x with
    | some kd, .map (some b) => match s.h.get b with
      | some (.map es) => if keyKind kd = true ∧ plainV k = true then match vfind kd k es 0 with
        | some (some (i, _)) => some (.val undef [.obj b (.map es) (.map (setNth es i (k, v)))])
        | some none => if Instr.sameNow kd k k = some true then some (.val undef [.obj b (.map es) (.map (es ++ [(k, v)]))]) else none
        | none => none else none
      | _ => none
    | _, _ => none
  | _ => none

def takeO : Option Operand → List Value → Option Value × List Value
  | some _, v :: r => (some v, r)
  | _, r => (none, r)

/-- One operation: 'E' is its tree in the virtual run, 'xs' its operands' values. -/
def vopB (P : Program) (E : Sem Next) (xs : List Value) (s : St) (o : Oper) : Option VR :=
    match o.op, xs with
    | .move _, [x] | .assign _, [x] => some (.val x [])
    | .pick _ _ _, [c, x, y] => match c with
      | .bool true => some (.val x [])
      | .bool false => some (.val y [])
      | _ => none
    | .alloc el, _ => (zeroOf P el).map fun z => .val (.pointer (some ⟨s.n, 0, none⟩)) [.new s.n (.live { cells := z, elem := el, exact := true, ro := false })]
    | .box el _, [x] => some (.val (.pointer (some ⟨s.n, 0, none⟩)) [.new s.n (.live { cells := x.cells.toList, elem := el, exact := true, ro := false })])
    | .build t ps, xs => vbuild P t ((ps.toList.map (·.1)).zip xs)
    | .buildSlice t len ps, xs => vbuildSlice P s t len ((ps.toList.map (·.1)).zip xs)
    | .load t _, [x] => vload P s t x
    | .store t _ _, [x, v] => vstore P t v x
    | .nilCheck _, [x] => match x with
      | .pointer (some _) => some (.val x [])
      | .func (.func _) _ _ => some (.val x [])
      | _ => none
    | .binOp op t _ _ _, [x, y] => vbin P E op t x y
    | .unOp _ _ _, xs => plainOper P E xs
    | .convert src dst _, [x] => if plainC x then plainOper P E [x] else vconvert P s src dst x
    | .makeFunc (.func g) first captured, xs => some (.val (.func (.func g) (xs.take first.size).toArray (xs.drop first.size).toArray) (if captured.size + first.size = xs.length then [] else [.kill 0]))
    | .makeSlice t _ _, [l, c] => vmakeSlice P s t l c
    | .slice t _ lo hi mx, x :: rest => vslice P s t x (takeO lo rest).1 (takeO hi (takeO lo rest).2).1 (takeO mx (takeO hi (takeO lo rest).2).2).1
    | .fieldAddr t _ f, [x] => vfieldAddr P t f x
    | .field t _ f, [x] => vfield P t f x
    | .indexAddr t _ _, [x, i] => vindexAddr P t x i
    | .index t _ _, [x, i] => vindex P t x i
    | .extract _ ix, [x] => vextract ix x
    | .range t _, [x] => match P.underlying t, x with
      | some .string, .string st => some (.val (.pointer (some ⟨s.n, 0, none⟩)) [.new s.n (.iter st 0)])
      | _, _ => none
    | .next _ true, [x] => vnext s x
    | .makeMap t _, xs => match P.underlying t with
      | some (.map _ _) => if xs.all (fun x => match x with | .int _ _ => true | _ => false) then some (.val (.map (some s.n)) [.new s.n (.map [])]) else none
      | _ => none
    | .lookup t _ _ ok, [x, k] => vlookup P s t x k ok
    | .mapUpdate t _ _ _, [x, k, v] | .insert t _ _ _, [x, k, v] => vmapUpdate P s t x k v
    | .makeInterface t _, [x] => match P.underlying t with
      | some (.interface _) => none
      | some _ => some (.val (.iface t x) [])
      | none => none
    | .call c, xs => match c.callee, xs with
      | .value _, f :: args => callee P f args
      | .builtin .len, [x] => match c.argTypes[0]? with
        | some t => vlen P t x
        | none => none
      | .builtin .cap, [x] => match c.argTypes[0]? with
        | some t => vcap P s t x
        | none => none
      | .builtin .append, [x, y] => vappend P s c.argTypes x y
      | .builtin .clear, [x] => vclear P c.argTypes x
      | .builtin .copy, [x, y] => vcopy P s c.argTypes x y
      | .builtin _, xs => plainOper P E xs
      | _, _ => none
    | _, _ => none

def oneF (xs : List Value) (k : Value → Option VR) : Option VR := match xs with
  | [x] => k x
  | _ => none
def twoF (xs : List Value) (k : Value → Value → Option VR) : Option VR := match xs with
  | [x, y] => k x y
  | _ => none
def threeF (xs : List Value) (k : Value → Value → Value → Option VR) : Option VR := match xs with
  | [x, y, z] => k x y z
  | _ => none
def vmove (x : Value) : Option VR := some (.val x [])
def vpick (c x y : Value) : Option VR := match c with
  | .bool true => some (.val x [])
  | .bool false => some (.val y [])
  | _ => none
def valloc (P : Program) (s : St) (el : TypeId) : Option VR := (zeroOf P el).map fun z => .val (.pointer (some ⟨s.n, 0, none⟩)) [.new s.n (.live { cells := z, elem := el, exact := true, ro := false })]
def vbox (s : St) (el : TypeId) (x : Value) : Option VR := some (.val (.pointer (some ⟨s.n, 0, none⟩)) [.new s.n (.live { cells := x.cells.toList, elem := el, exact := true, ro := false })])
def vnilCheck (x : Value) : Option VR := match x with
  | .pointer (some _) => some (.val x [])
  | .func (.func _) _ _ => some (.val x [])
  | _ => none
def vconv (P : Program) (E : Sem Next) (s : St) (src dst : TypeId) (x : Value) : Option VR := if plainC x then plainOper P E [x] else vconvert P s src dst x
def vmakeFunc (g : FuncId) (first captured : Array Operand) (xs : List Value) : Option VR :=
  some (.val (.func (.func g) (xs.take first.size).toArray (xs.drop first.size).toArray) (if captured.size + first.size = xs.length then [] else [.kill 0]))
def vmakeFn (fn : Fn) (first captured : Array Operand) (xs : List Value) : Option VR := match fn with
  | .func g => vmakeFunc g first captured xs
  | _ => none
def vsliceF (P : Program) (s : St) (t : TypeId) (lo hi mx : Option Operand) (xs : List Value) : Option VR := match xs with
  | x :: rest => vslice P s t x (takeO lo rest).1 (takeO hi (takeO lo rest).2).1 (takeO mx (takeO hi (takeO lo rest).2).2).1
  | [] => none
def vrange (P : Program) (s : St) (t : TypeId) (x : Value) : Option VR := match P.underlying t, x with
  | some .string, .string st => some (.val (.pointer (some ⟨s.n, 0, none⟩)) [.new s.n (.iter st 0)])
  | _, _ => none
def vnextF (s : St) (b : Bool) (xs : List Value) : Option VR := match b with
  | true => oneF xs (vnext s)
  | false => none
def vmakeMap (P : Program) (s : St) (t : TypeId) (xs : List Value) : Option VR := match P.underlying t with
  | some (.map _ _) => if xs.all (fun x => match x with | .int _ _ => true | _ => false) then some (.val (.map (some s.n)) [.new s.n (.map [])]) else none
  | _ => none
def vmakeIface (P : Program) (t : TypeId) (x : Value) : Option VR := match P.underlying t with
  | some (.interface _) => none
  | some _ => some (.val (.iface t x) [])
  | none => none
def vcall (P : Program) (E : Sem Next) (s : St) (c : Call) (xs : List Value) : Option VR := match c.callee, xs with
  | .value _, f :: args => callee P f args
  | .builtin .len, [x] => match c.argTypes[0]? with
    | some t => vlen P t x
    | none => none
  | .builtin .cap, [x] => match c.argTypes[0]? with
    | some t => vcap P s t x
    | none => none
  | .builtin .append, [x, y] => vappend P s c.argTypes x y
  | .builtin .clear, [x] => vclear P c.argTypes x
  | .builtin .copy, [x, y] => vcopy P s c.argTypes x y
  | .builtin _, xs => plainOper P E xs
  | _, _ => none

/-- The same as 'vopB', a small step for each kind of operation. -/
def vopF (P : Program) (E : Sem Next) (xs : List Value) (s : St) (o : Oper) : Option VR :=
  match o.op with
  | .move _ => oneF xs vmove
  | .assign _ => oneF xs vmove
  | .pick _ _ _ => threeF xs vpick
  | .alloc el => valloc P s el
  | .box el _ => oneF xs (vbox s el)
  | .build t ps => vbuild P t ((ps.toList.map (·.1)).zip xs)
  | .buildSlice t len ps => vbuildSlice P s t len ((ps.toList.map (·.1)).zip xs)
  | .load t _ => oneF xs (vload P s t)
  | .store t _ _ => twoF xs fun x v => vstore P t v x
  | .nilCheck _ => oneF xs vnilCheck
  | .binOp op t _ _ _ => twoF xs (vbin P E op t)
  | .unOp _ _ _ => plainOper P E xs
  | .convert src dst _ => oneF xs (vconv P E s src dst)
  | .makeFunc fn first captured => vmakeFn fn first captured xs
  | .makeSlice t _ _ => twoF xs (vmakeSlice P s t)
  | .slice t _ lo hi mx => vsliceF P s t lo hi mx xs
  | .fieldAddr t _ f => oneF xs (vfieldAddr P t f)
  | .field t _ f => oneF xs (vfield P t f)
  | .indexAddr t _ _ => twoF xs (vindexAddr P t)
  | .index t _ _ => twoF xs (vindex P t)
  | .extract _ ix => oneF xs (vextract ix)
  | .range t _ => oneF xs (vrange P s t)
  | .next _ b => vnextF s b xs
  | .makeMap t _ => vmakeMap P s t xs
  | .lookup t _ _ ok => twoF xs fun x k => vlookup P s t x k ok
  | .mapUpdate t _ _ _ => threeF xs (vmapUpdate P s t)
  | .insert t _ _ _ => threeF xs (vmapUpdate P s t)
  | .makeInterface t _ => oneF xs (vmakeIface P t)
  | .call c => vcall P E s c xs
  | _ => none

theorem vopF_eq (P : Program) (E : Sem Next) (xs : List Value) (s : St) (o : Oper) : vopF P E xs s o = vopB P E xs s o := by
  unfold vopF vopB
  cases o.op with
  | makeFunc fn first captured => cases fn <;> rfl
  | next it b => cases b <;> rcases xs with _ | ⟨x, _ | ⟨y, ys⟩⟩ <;> rfl
  | _ => rcases xs with _ | ⟨x, _ | ⟨y, _ | ⟨z, _ | ⟨u, us⟩⟩⟩⟩ <;> rfl

def vop (P : Program) (a : VA) (s : St) (o : Oper) : Option VR :=
  match seqO (o.op.operands.toList.map a.eval) with
  | none => none
  | some xs => vopF P (execOp (fun x => (a.eval x).getD undef) o) xs s o

/-- What is wanted of a guarded operation. -/
def wantedV (ops : Array Oper) (a : VA) (o : Oper) : Bool :=
  wanted o fun j => match ((ops[j]?).bind (·.dst)).bind fun d => if d < a.n then some ((a.t.get d).getD undef) else none with
    | some (.bool b) => some b
    | _ => none

abbrev Caller := FuncId → List Value → St → Option (Value × St × List Ev)

def runOps (P : Program) (call : Caller) (ops : Array Oper) : List Nat → VA → St → Option (VA × St × List (Nat × List Ev))
  | [], a, s => some (a, s, [])
  | i :: rest, a, s =>
    match ops[i]? with
    | none => none
    | some o =>
      if wantedV ops a o then
        match vop P a s o with
        | some (.val v es) => match s.steps es with
          | some s' => match a.put o.dst v with
            | some a' => match runOps P call ops rest a' s' with
              | some (a'', s'', ev) => some (a'', s'', (i, es) :: ev)
              | none => none
            | none => none
          | none => none
        | some (.call f args) => match call f args s with
          | some (v, s', es) => match a.put o.dst v with
            | some a' => match runOps P call ops rest a' s' with
              | some (a'', s'', ev) => some (a'', s'', (i, es) :: ev)
              | none => none
            | none => none
          | none => none
        | none => none
      else match a.put o.dst undef with
        | some a' => match runOps P call ops rest a' s with
          | some (a'', s'', ev) => some (a'', s'', (i, []) :: ev)
          | none => none
        | none => none

/-- The same, over the list of the operations: no operation is looked up. -/
def runOpsL (P : Program) (call : Caller) (ops : Array Oper) (l : List Oper) : Nat → VA → St → Option (VA × St × List (Nat × List Ev)) :=
  @List.rec Oper (fun _ => Nat → VA → St → Option (VA × St × List (Nat × List Ev))) (fun _ a s => some (a, s, [])) (fun o _ ih i a s =>
      if wantedV ops a o then
        match vop P a s o with
        | some (.val v es) => match s.steps es with
          | some s' => match a.put o.dst v with
            | some a' => match ih (i + 1) a' s' with
              | some (a'', s'', ev) => some (a'', s'', (i, es) :: ev)
              | none => none
            | none => none
          | none => none
        | some (.call f args) => match call f args s with
          | some (v, s', es) => match a.put o.dst v with
            | some a' => match ih (i + 1) a' s' with
              | some (a'', s'', ev) => some (a'', s'', (i, es) :: ev)
              | none => none
            | none => none
          | none => none
        | none => none
      else match a.put o.dst undef with
        | some a' => match ih (i + 1) a' s with
          | some (a'', s'', ev) => some (a'', s'', (i, []) :: ev)
          | none => none
        | none => none) l

theorem runOpsL_nil (P : Program) (call : Caller) (ops : Array Oper) (i : Nat) (a : VA) (s : St) : runOpsL P call ops [] i a s = some (a, s, []) := rfl
theorem runOpsL_cons (P : Program) (call : Caller) (ops : Array Oper) (o : Oper) (rest : List Oper) (i : Nat) (a : VA) (s : St) : runOpsL P call ops (o :: rest) i a s =
      (if wantedV ops a o then
        match vop P a s o with
        | some (.val v es) => match s.steps es with
          | some s' => match a.put o.dst v with
            | some a' => match runOpsL P call ops rest (i + 1) a' s' with
              | some (a'', s'', ev) => some (a'', s'', (i, es) :: ev)
              | none => none
            | none => none
          | none => none
        | some (.call f args) => match call f args s with
          | some (v, s', es) => match a.put o.dst v with
            | some a' => match runOpsL P call ops rest (i + 1) a' s' with
              | some (a'', s'', ev) => some (a'', s'', (i, es) :: ev)
              | none => none
            | none => none
          | none => none
        | none => none
      else match a.put o.dst undef with
        | some a' => match runOpsL P call ops rest (i + 1) a' s with
          | some (a'', s'', ev) => some (a'', s'', (i, []) :: ev)
          | none => none
        | none => none) := rfl

/-- Of which operations must an operation come behind? (a number's bits) -/
def ancGo : List Oper → List Nat → List Nat
  | [], acc => acc
  | o :: rest, acc => force (o.after.toList.foldl (fun m e => if binds .any e then m ||| 2 ^ e.on ||| acc.getD e.on 0 else m) 0) fun m => ancGo rest (acc ++ [m])

def Ev.block : Ev → Nat
  | .rd b _ _ | .wr b _ _ | .new b _ | .kill b | .info b _ _ | .look b _ | .obj b _ _ => b

def compat1 : Ev → Ev → Bool
  | .rd _ _ _, .rd _ _ _ => true
  | .info _ _ _, .rd _ _ _ | .info _ _ _, .wr _ _ _ | .info _ _ _, .info _ _ _ | .rd _ _ _, .info _ _ _ | .wr _ _ _, .info _ _ _ => true
  | .look _ _, .look _ _ => true
  | .rd b o vs, .wr c p us => b != c || o + vs.length ≤ p || p + us.length ≤ o
  | .wr b o vs, .rd c p us => b != c || o + vs.length ≤ p || p + us.length ≤ o
  | e, f => e.block != f.block

def compatL (es fs : List Ev) : Bool := es.all fun e => fs.all fun f => compat1 e f

def noSel (ops : Array Oper) : Bool := ops.toList.all fun o => match o.op with | .select .. => false | _ => true

def evsApart (anc : List Nat) : List (Nat × List Ev) → Bool
  | [] => true
  | (_, []) :: rest => evsApart anc rest
  | (i, es) :: rest => rest.all (fun (j, fs) => fs.isEmpty || (anc.getD j 0).testBit i || compatL es fs) && evsApart anc rest

def edgesL : List Oper → Nat → Bool
  | [], _ => true
  | o :: r, j => o.after.toList.all (fun e => !binds .any e || Nat.blt e.on j) && edgesL r (j + 1)

abbrev Pre := Option Tmp × List Tmp
def preOf (ops : Array Oper) (o : Oper) : Pre := (o.dst, o.looksAt ops)
def apartP (x y : Pre) : Bool :=
  (match x.1 with
   | some d => !y.2.contains d && y.1 != some d
   | none => true) &&
  (match y.1 with
   | some d => !x.2.contains d
   | none => true)
def chkT (y : Pre) (m : Nat) : List Pre → Nat → Nat → Bool
  | [], _, _ => true
  | x :: xs, i, j => Nat.beq i j || ((m.testBit i || apartP x y) && chkT y m xs (i + 1) j)
def tmpsL (all : List Pre) : List Pre → Nat → List Nat → Bool
  | [], _, _ => true
  | _ :: _, _, [] => false
  | y :: ys, j, m :: ms => chkT y m all 0 j && tmpsL all ys (j + 1) ms

def staticOk (ops : Array Oper) (anc : List Nat) : Bool := edgesL ops.toList 0 && tmpsL (ops.toList.map (preOf ops)) (ops.toList.map (preOf ops)) 0 anc

inductive VX where
  | normal | exit (id : Nat) | ret

abbrev Out := Option (VX × VA × St × List Ev)

def iter (body : VA → St → Out) : Nat → VA → St → Out
  | 0, _, _ => none
  | n + 1, a, s => match body a s with
    | some (.normal, a', s', es) => match iter body n a' s' with
      | some (x, a'', s'', es') => some (x, a'', s'', es ++ es')
      | none => none
    | r => r

def codeRegion (P : Program) (call : Caller) (ops : Array Oper) (draw : Bool) (a : VA) (s : St) : Out :=
  match runOpsL P call ops ops.toList 0 a s with
  | some (a', s', ev) =>
    if noSel ops = false then none else if draw then
      if staticOk ops (ancGo ops.toList []) && evsApart (ancGo ops.toList []) ev then some (.normal, a', s', ev.flatMap (·.2)) else none
    else some (.normal, a', s', ev.flatMap (·.2))
  | none => none
def codeSeq (x y : VA → St → Out) (a : VA) (s : St) : Out := match x a s with
  | some (.normal, a', s', es) => match y a' s' with
    | some (e, a'', s'', es') => some (e, a'', s'', es ++ es')
    | none => none
  | r => r
def codeCond (c : Operand) (x y : VA → St → Out) (a : VA) (s : St) : Out := match a.eval c with
  | some (.bool true) => x a s
  | some (.bool false) => y a s
  | _ => none
def codeBlock (id : Nat) (b : VA → St → Out) (a : VA) (s : St) : Out := match b a s with
  | some (.exit i, a', s', es) => if i = id then some (.normal, a', s', es) else some (.exit i, a', s', es)
  | r => r

def code (P : Program) (call : Caller) (F : Nat) (c : Code) : VA → St → Out :=
  @Code.rec (fun _ => VA → St → Out)
    (fun a s => some (.normal, a, s, []))
    (fun _ ops draw => codeRegion P call ops draw)
    (fun _ _ x y => codeSeq x y)
    (fun c _ _ x y => codeCond c x y)
    (fun id _ b => codeBlock id b)
    (fun _ b a s => iter b F a s)
    (fun _ _ _ _ _ _ _ _ => none)
    (fun id a s => some (.exit id, a, s, []))
    (fun _ b => b)
    (fun _ a s => some (.normal, a, s, []))
    (fun _ _ _ => none)
    (fun a s => some (.ret, a, s, []))
    (fun _ _ _ => none) c

def vresults (P : Program) (a : VA) (s : St) : List ResultVar → Option (List Value × List Ev)
  | [] => some ([], [])
  | .tmp t :: rest => match vresults P a s rest with
    | some (vs, es) => some ((a.t.get t).getD undef :: vs, es)
    | none => none
  | .cell t ty :: rest => match vload P s ty ((a.t.get t).getD undef), vresults P a s rest with
    | some (.val v e), some (vs, es) => some (v :: vs, e ++ es)
    | _, _ => none

def initT : List Value → Nat → Tr Value → Tr Value
  | [], _, t => t
  | v :: vs, k, t => force (k + 1) fun m => initT vs m (t.put bits k v)

def calls (P : Program) (G F : Nat) : Nat → Caller
  | 0, _, _, _ => none
  | n + 1, f, args, s =>
    match P.funcs[f]? with
    | none => none
    | some fn => match fn.body with
      | none => none
      | some c =>
        if args.length ≤ fn.ntmps ∧ args.length ≤ top then
          match code P (calls P G F n) F c { n := fn.ntmps, g := G, t := initT args 0 .e } s with
          | some (.normal, a, s', es) | some (.ret, a, s', es) =>
            match vresults P a s' fn.results.toList with
            | some ([v], es') => some (v, s', es ++ es')
            | some (vs, es') => some (.tuple vs.toArray, s', es ++ es')
            | none => none
          | _ => none
        else none

end
end Go.Proofs.YtdjoolpdabffjaaGreatDoor.Vr
