/- Plain facts on all locks, by the names of what is locked; nothing of the program is named here. -/
import Derived.Test.YtnjhhndggfjjdaaDoorGqZ
import Derived.Test.YtnjhhndggfjjdaaDoorNmP
set_option maxRecDepth 4000
namespace Go.Proofs.YtnjhhndggfjjdaaDoor
open Go
/-- a lock and its name; all of them, by their names -/
abbrev Ent := Nm × Lk
abbrev TS := List Ent
/-- where the lock of a name stands, or would -/
def spotN (s : TS) (n : Nm) : Nat := s.findIdx fun e => !decide (cmpN e.1 n < 0)
def atN (s : TS) (n : Nm) : Bool := match s[spotN s n]? with
  | some e => cmpN e.1 n == 0
  | none => false
/-- the lock of a name: nobody's, if there is none -/
def lockN (s : TS) (n : Nm) : Lk := match s[spotN s n]? with
  | some e => if cmpN e.1 n = 0 then e.2 else ([], [])
  | none => ([], [])
def putN (s : TS) (n : Nm) (l : Lk) : TS := if atN s n then s.set (spotN s n) (n, l) else s.take (spotN s n) ++ (n, l) :: s.drop (spotN s n)
/-- who has to do with a lock -/
def hereP (s : Lk) (who : Int) : Bool := (holdsP s).any fun h => h.1 == who
def countP (s : TS) : Nat := (s.map fun e => (holdsP e.2).length).sum
def waitN (s : TS) (who : Int) : Option Nm := (s.find? fun e => hasP e.2.2 who).map (·.1)
def modeN (s : TS) (who : Int) (n : Nm) : Nat := match knownP n with
  | none => 0
  | some m => modeP (lockN s m).1 who
def askN (s : TS) (who : Int) (n : Nm) (mode : Int) : Nat × TS := match knownP n with
  | none => (1, s)
  | some m =>
    if (waitN s who).isSome then (2, s) else
    if mode = 0 then (0, s) else
    if hereP (lockN s m) who = false ∧ 200 ≤ countP s then (10, s) else
    (if (askP (lockN s m) who (mdN mode)).1 then 0 else 13, putN s m (askP (lockN s m) who (mdN mode)).2)
def freeN : TS → Int → List Int × TS
  | [], _ => ([], [])
  | e :: s, who =>
    if hereP e.2 who then ((dropP e.2 who).1 ++ (freeN s who).1, if (holdsP (dropP e.2 who).2).length = 0 then (freeN s who).2 else (e.1, (dropP e.2 who).2) :: (freeN s who).2)
    else ((freeN s who).1, e :: (freeN s who).2)
/-- for whom each one waits, as the locks tell it -/
def rawE (s : TS) : List (Int × Int) := s.flatMap fun e => (holdsP e.2).flatMap fun h => (waitsP e.2 h.1).map fun o => (h.1, o)
/-- what all locks are at any time -/
structure TOk (s : TS) : Prop where
  rise : s.Pairwise fun a b => cmpN a.1 b.1 < 0
  norm : ∀ e ∈ s, knownP e.1 = some e.1
  ok : ∀ e ∈ s, Ok e.2
  fit : ∀ e ∈ s, Fit e.2
  some : ∀ e ∈ s, holdsP e.2 ≠ []
  one : s.Pairwise fun a b => ∀ who, hasP a.2.2 who = true → hasP b.2.2 who = false
end Go.Proofs.YtnjhhndggfjjdaaDoor
