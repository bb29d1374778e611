/-
  What an expression's value is, plainly: numbers, texts, truths; of an event, and of stages' last events.
-/
import Derived.Test.YthipclehhcfahaaGreatDoorHC03
import Derived.Test.YthipclehhcfahaaGreatDoorHC20
namespace Go.Proofs.YthipclehhcfahaaGreatDoor

structure Vl where
  n : Int
  s : ByteArray
  t : Bool
def noB : ByteArray := ⟨#[]⟩
/-- The moment at which a condition is asked: the event, the stages' names and their last events. -/
structure Mo where
  e : Ev
  ns : List ByteArray
  la : List Ev
/-- The first place of a name. -/
def fstN (s : ByteArray) : List ByteArray → Nat
  | [] => 0
  | n :: r => if n.data.toList = s.data.toList then 0 else fstN s r + 1
def evZ : Ev := ⟨noB, noB, 0, 0, 0, 0, noB⟩
def Mo.at (M : Mo) (s : ByteArray) : Ev := if emptyB s then M.e else M.la.getD (fstN s M.ns) evZ
def evN (e : Ev) (f : Int) : Int := if f = 0 then e.n0 else if f = 1 then e.n1 else if f = 2 then e.n2 else e.n3
def fdV (e : Ev) (f : Int) : Vl := if f = 4 then ⟨0, e.t, false⟩ else if f = 5 then ⟨0, e.x, false⟩ else ⟨evN e f, noB, false⟩
def lfV (M : Mo) (p : Pt) : Vl := if p.kd = 1 then ⟨p.n, noB, false⟩ else if p.kd = 2 then ⟨0, p.s, false⟩ else fdV (M.at p.st) p.fl
def eqV (a b : Vl) : Bool := decide (a.n = b.n) && (decide (a.s.data.toList = b.s.data.toList) && decide (a.t = b.t))
def opV (k : Int) (a b : Vl) : Vl :=
  if k = 4 then ⟨IntKind.i64.wrap (a.n + b.n), noB, false⟩
  else if k = 5 then ⟨IntKind.i64.wrap (a.n - b.n), noB, false⟩
  else if k = 6 then ⟨IntKind.i64.wrap (a.n * b.n), noB, false⟩
  else if k = 7 then ⟨0, noB, decide (a.n < b.n)⟩
  else if k = 8 then ⟨0, noB, decide (a.n ≤ b.n)⟩
  else if k = 9 then ⟨0, noB, eqV a b⟩
  else if k = 10 then ⟨0, noB, !eqV a b⟩
  else if k = 11 then ⟨0, noB, a.t && b.t⟩
  else if k = 12 then ⟨0, noB, a.t || b.t⟩
  else ⟨0, noB, !a.t⟩
def vlv (M : Mo) (p : Pt) : List Vl → Vl
  | [] => lfV M p
  | [a] => opV p.kd a ⟨0, noB, false⟩
  | a :: b :: _ => opV p.kd a b
/-- Does a stage have its name among these? -/
def hasN (ns : List ByteArray) (s : ByteArray) : Bool := decide (fstN s ns < ns.length)
/-- Have all stages that are asked for? -/
def hasS (ns : List ByteArray) (x : List Pt) : Bool := x.all fun p => emptyB p.st || hasN ns p.st
/-- What Holds tells. -/
def hdE (x : List Pt) (M : Mo) : Int := if ckK x ≠ 3 then 110 else if M.ns.length ≠ M.la.length ∨ hasS M.ns x = false then 5 else 0
def hdB (x : List Pt) (M : Mo) : Bool := if hdE x M ≠ 0 then false else match fdX (vlv M) x with
  | some v => v.t
  | none => false
end Go.Proofs.YthipclehhcfahaaGreatDoor
