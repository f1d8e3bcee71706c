/- Regular expressions, read: pure. What the program's reader makes of a text: places, classes, parts. -/
import Derived.Laws.Rows
import Derived.Lib.TrimU
namespace Go.Proofs.YtmbkcmfcdjccoaaDoor

abbrev Sp := Int × Int
/-- Is a character within one of the spans? -/
def memS (l : List Sp) (c : Int) : Bool := l.any fun s => decide (s.1 ≤ c) && decide (c ≤ s.2)
def maxR : Int := 1114111
def digS : List Sp := [(48, 57)]
def wordS : List Sp := [(48, 57), (65, 90), (95, 95), (97, 122)]
def blankS : List Sp := [(9, 10), (12, 13), (32, 32)]
/-- The spans between those of a rising list, from a place on. -/
def otherS : List Sp → Int → List Sp
  | [], f => if f ≤ maxR then [(f, maxR)] else []
  | s :: t, f => (if f < s.1 then [(f, s.1 - 1)] else []) ++ otherS t (s.2 + 1)
/-- Rising and apart. -/
def RiseS : List Sp → Int → Prop
  | [], _ => True
  | s :: t, f => f ≤ s.1 ∧ s.1 ≤ s.2 ∧ RiseS t (s.2 + 1)
/-- What a backslash and a letter stand for. -/
def letS (c : UInt8) : Option (List Sp) :=
  if c = 100 then some digS else if c = 119 then some wordS else if c = 115 then some blankS
  else if c = 68 then some (otherS digS 0) else if c = 87 then some (otherS wordS 0) else if c = 83 then some (otherS blankS 0) else none
def specB (c : UInt8) : Bool := [92, 46, 43, 42, 63, 40, 41, 124, 91, 93, 123, 125, 94, 36].contains c
/-- The character that a backslash and a byte stand for. -/
def escB (c : UInt8) : Option Int :=
  if c = 110 then some 10 else if c = 116 then some 9 else if c = 114 then some 13
  else if c = 45 ∨ c = 47 ∨ c = 34 ∨ c = 39 ∨ c = 32 then some c.toNat
  else if specB c = true then some c.toNat else none

/-- What is read: refused at a place, or something and the place behind it. -/
inductive Rd (α : Type) where
  | no (p : Nat) : Rd α
  | yes (x : α) (p : Nat) : Rd α

def seesB (s : ByteArray) (i : Nat) (c : UInt8) : Bool := s.data.toList[i]? == some c
/-- The character at a place, and how many bytes it has. -/
def charR (s : ByteArray) (i : Nat) : Nat × Nat := Lib.decodeGoB (s.extract i s.size)
/-- Behind a backslash: the spans, and whether they are one character. -/
def escR (s : ByteArray) (i : Nat) : Rd (List Sp × Bool) :=
  match s.data.toList[i]? with
  | none => .no i
  | some c => match letS c with
    | some l => .yes (l, false) (i + 1)
    | none => match escB c with
      | some x => .yes ([(x, x)], true) (i + 1)
      | none => .no i
/-- A character or an escape of a class. -/
def memR (s : ByteArray) (i : Nat) (first : Bool) : Rd (List Sp × Bool) :=
  if i = s.size then .no i
  else if seesB s i 92 = true then escR s (i + 1)
  else if seesB s i 45 = true ∧ first = false ∧ seesB s (i + (charR s i).2) 93 = false then .no (i + (charR s i).2)
  else .yes ([((charR s i).1, (charR s i).1)], true) (i + (charR s i).2)
/-- A character, a range or an escape of a class. -/
def pieceR (s : ByteArray) (i : Nat) (first : Bool) : Rd (List Sp) :=
  match memR s i first with
  | .no p => .no p
  | .yes (l, alone) p =>
    if alone = false ∨ seesB s p 45 = false ∨ (p + 1 < s.size ∧ seesB s (p + 1) 93 = true) then .yes l p
    else if seesB s (p + 1) 45 = true ∧ 45 < (l.headD (0, 0)).1 then .no (p + 1)
    else match memR s (p + 1) false with
      | .no q => .no q
      | .yes (h, alone2) q => if alone2 = false ∨ (h.headD (0, 0)).1 < (l.headD (0, 0)).1 then .no (q - 1) else .yes [((l.headD (0, 0)).1, (h.headD (0, 0)).1)] q
/-- The pieces of a class, up to its closing bracket. -/
def piecesR (s : ByteArray) : Nat → Nat → Bool → List Sp → Rd (List Sp)
  | 0, i, _, _ => .no i
  | n + 1, i, first, acc =>
    if first = false ∧ seesB s i 93 = true then .yes acc (i + 1)
    else match pieceR s i first with
      | .no p => .no p
      | .yes l p => piecesR s n p false (acc ++ l)
/-- A class behind its opening bracket: the spans, and whether all others are meant. -/
def classR (s : ByteArray) (i : Nat) : Rd (List Sp × Bool) :=
  if seesB s i 94 = true then (match piecesR s (s.size + 1) (i + 1) true [] with | .no p => .no p | .yes l p => .yes (l, true) p)
  else match piecesR s (s.size + 1) i true [] with | .no p => .no p | .yes l p => .yes (l, false) p
/-- Digits, from a place on, up to their end; what they say, held at 101. -/
def digsR (s : ByteArray) : Nat → Nat → Nat → Nat × Nat
  | 0, i, n => (n, i)
  | k + 1, i, n => match s.data.toList[i]? with
    | some c => if 48 ≤ c ∧ c ≤ 57 then digsR s k (i + 1) (min (n * 10 + (c.toNat - 48)) 101) else (n, i)
    | none => (n, i)
/-- A number without noughts ahead. -/
def numR (s : ByteArray) (i : Nat) : Rd Nat :=
  if seesB s i 48 = true then .yes 0 (i + 1)
  else if (digsR s s.size i 0).2 = i then .no i else .yes (digsR s s.size i 0).1 (digsR s s.size i 0).2
/-- The numbers of a repeat behind its brace, and the closing one. -/
def endR (s : ByteArray) (p lo : Nat) (hi : Int) : Rd (Nat × Int) :=
  if seesB s p 125 = false ∨ 100 < lo ∨ 100 < hi ∨ (hi ≠ -1 ∧ hi < lo) then .no p else .yes (lo, hi) (p + 1)
def countR (s : ByteArray) (i : Nat) : Rd (Nat × Int) :=
  match numR s i with
  | .no p => .no p
  | .yes lo p =>
    if seesB s p 44 = false then endR s p lo lo
    else if seesB s (p + 1) 125 = true then endR s (p + 1) lo (-1)
    else match numR s (p + 1) with
      | .no q => .no q
      | .yes hi q => endR s q lo hi

/-- A part of an expression. -/
inductive Nd where
  | take (l : List Sp) (neg : Bool) : Nd
  | start : Nd
  | stop : Nd
  | row (l : List Nd) : Nd
  | either (a b : Nd) : Nd
  | group (n : Nat) (a : Nd) : Nd
  | plus (a : Nd) (lazy : Bool) : Nd
  | times (a : Nd) (lo : Nat) (hi : Int) (lazy : Bool) : Nd
def capN (n : Int) : Int := min n 2001
mutual
/-- How many steps a part comes to, held at 2001. -/
def sizeN : Nd → Int
  | .take _ _ => 1
  | .start => 1
  | .stop => 1
  | .row l => sizesN l 0
  | .either a b => capN (sizeN a + sizeN b + 2)
  | .group _ a => capN (sizeN a + 2)
  | .plus a _ => capN (sizeN a + 1)
  | .times a lo hi _ => if hi = -1 then capN (lo * sizeN a + sizeN a + 2) else capN (lo * sizeN a + (hi - lo) * (sizeN a + 1))
def sizesN : List Nd → Int → Int
  | [], n => n
  | a :: t, n => sizesN t (capN (n + sizeN a))
end
/-- The repeat behind a thing. -/
def repR (s : ByteArray) (x : Nd) (i : Nat) : Rd Nd :=
  if seesB s i 42 = true then .yes (.times x 0 (-1) (seesB s (i + 1) 63)) (if seesB s (i + 1) 63 = true then i + 2 else i + 1)
  else if seesB s i 43 = true then .yes (.plus x (seesB s (i + 1) 63)) (if seesB s (i + 1) 63 = true then i + 2 else i + 1)
  else if seesB s i 63 = true then .yes (.times x 0 1 (seesB s (i + 1) 63)) (if seesB s (i + 1) 63 = true then i + 2 else i + 1)
  else if seesB s i 123 = true then match countR s (i + 1) with
    | .no p => .no p
    | .yes (lo, hi) p => .yes (.times x lo hi (seesB s p 63)) (if seesB s p 63 = true then p + 1 else p)
  else .yes x i
/-- What is read of parts: refused at a place, or a part, the place behind it, the groups so far. -/
inductive Pt (α : Type) where
  | no (p : Nat) : Pt α
  | yes (x : α) (p g : Nat) : Pt α
mutual
def eitherR (s : ByteArray) : Nat → Nat → Nat → Pt Nd
  | 0, i, _ => .no i
  | n + 1, i, g => match rowR s n i g [] with
    | .no p => .no p
    | .yes a p g2 => if seesB s p 124 = false then .yes a p g2 else match eitherR s n (p + 1) g2 with
      | .no q => .no q
      | .yes b q g3 => .yes (.either a b) q g3
def rowR (s : ByteArray) : Nat → Nat → Nat → List Nd → Pt Nd
  | 0, i, _, _ => .no i
  | n + 1, i, g, acc =>
    if s.size ≤ i ∨ seesB s i 124 = true ∨ seesB s i 41 = true then .yes (.row acc) i g
    else match partR s n i g with
      | .no p => .no p
      | .yes a p g2 => rowR s n p g2 (acc ++ [a])
def partR (s : ByteArray) : Nat → Nat → Nat → Pt Nd
  | 0, i, _ => .no i
  | n + 1, i, g =>
    if seesB s i 94 = true then .yes .start (i + 1) g
    else if seesB s i 36 = true then .yes .stop (i + 1) g
    else match thingR s n i g with
      | .no p => .no p
      | .yes x p g2 => match repR s x p with
        | .no q => .no q
        | .yes y q => .yes y q g2
def thingR (s : ByteArray) : Nat → Nat → Nat → Pt Nd
  | 0, i, _ => .no i
  | n + 1, i, g =>
    if seesB s i 40 = true then bracketR s n (i + 1) g
    else if seesB s i 91 = true then (match classR s (i + 1) with | .no p => .no p | .yes (l, neg) p => .yes (.take l neg) p g)
    else if seesB s i 46 = true then .yes (.take [(0, maxR)] false) (i + 1) g
    else if seesB s i 92 = true then (match escR s (i + 1) with | .no p => .no p | .yes (l, _) p => .yes (.take l false) p g)
    else if ((s.data.toList[i]?).map specB).getD false = true then .no i
    else .yes (.take [((charR s i).1, (charR s i).1)] false) (i + (charR s i).2) g
def bracketR (s : ByteArray) : Nat → Nat → Nat → Pt Nd
  | 0, i, _ => .no i
  | n + 1, i, g =>
    if seesB s i 63 = true then
      if seesB s (i + 1) 58 = true then (match eitherR s n (i + 2) g with
        | .no p => .no p
        | .yes x p g2 => if seesB s p 41 = true then .yes x (p + 1) g2 else .no p)
      else .no (i + 1)
    else match eitherR s n i (g + 1) with
      | .no p => .no p
      | .yes x p g2 => if seesB s p 41 = true then .yes (.group (g + 1) x) (p + 1) g2 else .no p
end
end Go.Proofs.YtmbkcmfcdjccoaaDoor
