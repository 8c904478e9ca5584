/-
  Quoted strings, plainly. It speaks of no program.
-/
import Derived.Test.YtgoefndbpfhhaaaDoorNameMath
namespace Go.Proofs.YtgoefndbpfhhaaaDoor

/-- a digit from 0 to 9 and a to f -/
def hexd (n : Nat) : UInt8 := UInt8.ofNat (if n < 10 then 48 + n else 87 + n)
/-- how a byte stands between quotes -/
def frm (c : UInt8) : List UInt8 :=
  if c.toNat = 34 ∨ c.toNat = 92 then [92, c] else if c.toNat = 10 then [92, 110] else if c.toNat < 32 ∨ 126 < c.toNat then [92, 120, hexd (c.toNat / 16), hexd (c.toNat % 16)] else [c]
/-- the bytes of a string, as they stand between quotes -/
def qb (l : List UInt8) : List UInt8 := l.flatMap frm
/-- a quoted string -/
def qt (l : List UInt8) : List UInt8 := 34 :: (qb l ++ [34])
theorem qb_append (a b : List UInt8) : qb (a ++ b) = qb a ++ qb b := by simp [qb]
theorem qb_one (c : UInt8) : qb [c] = frm c := by simp [qb]
theorem frm_len (c : UInt8) : (frm c).length ≤ 4 ∧ 0 < (frm c).length := by
  unfold frm; split
  · simp
  · split
    · simp
    · split
      · simp
      · simp
theorem qb_len : ∀ l : List UInt8, (qb l).length ≤ 4 * l.length
  | [] => by simp [qb]
  | c :: r => by
    have h1 := qb_len r
    have h2 := (frm_len c).1
    have e : qb (c :: r) = frm c ++ qb r := by simp [qb]
    rw [e, List.length_append, List.length_cons]; omega
end Go.Proofs.YtgoefndbpfhhaaaDoor
