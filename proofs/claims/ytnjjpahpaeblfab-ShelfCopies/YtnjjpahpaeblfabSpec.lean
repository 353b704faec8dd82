/- The plain functions that the shelf's contracts speak of: names, notes, right notes, orders; nothing of the program. -/
import Derived.Sort.KeysCollected
namespace Go.Proofs.Ytnjjpahpaeblfab
open Go
set_option linter.unusedVariables false

/-- A note: its name, its words, its sum, its leans. -/
structure Nt where
  name : List UInt8
  words : Int
  sum : Int
  leans : List (List UInt8)

def letB (c : UInt8) : Bool := decide (97 ≤ c.toNat) && decide (c.toNat ≤ 122)
def digB (c : UInt8) : Bool := decide (48 ≤ c.toNat) && decide (c.toNat ≤ 57)
def okB (c : UInt8) : Bool := letB c || digB c || c.toNat == 46
def nmB (s : List UInt8) : Bool := decide (1 ≤ s.length) && decide (s.length ≤ 32) && letB (s.getD 0 0) && s.all okB
def goodAt (own : List UInt8) (ls : List (List UInt8)) (k : Nat) : Bool := nmB (ls.getD k []) && !(ls.getD k [] == own) && !((ls.take k).contains (ls.getD k []))
def rlB (own : List UInt8) (ls : List (List UInt8)) : Bool := (List.range ls.length).all (goodAt own ls)
def rightI (n : Nt) : Int := if !nmB n.name || decide (n.words < 0) || decide (4096 < n.words) || !rlB n.name n.leans then 1 else if 8 < n.leans.length then 3 else 0

def lacksB (S : List Nt) : Bool := S.any fun n => n.leans.any fun l => !(S.map Nt.name).contains l
def leansOf (S : List Nt) (x : List UInt8) : List (List UInt8) := match S.find? (fun n => n.name == x) with | some n => n.leans | none => []
def namesOf (S : List Nt) : List (List UInt8) := (S.map Nt.name).mergeSort leB
def readyB (S : List Nt) (o : List (List UInt8)) (x : List UInt8) : Bool := !o.contains x && (leansOf S x).all o.contains
def nextOf (S : List Nt) (o : List (List UInt8)) : Option (List UInt8) := (namesOf S).find? (readyB S o)
def orderTo (S : List Nt) : Nat → Option (List (List UInt8))
  | 0 => some []
  | k + 1 => match orderTo S k with
    | none => none
    | some o => match nextOf S o with
      | none => none
      | some x => some (o ++ [x])
/-- What Order answers: names, and an error's number. -/
def orderOf (S : List Nt) : List (List UInt8) × Int := if lacksB S then ([], 12) else match orderTo S S.length with | none => ([], 11) | some o => (o, 0)

theorem rlB_iff (own : List UInt8) (ls : List (List UInt8)) : rlB own ls = true ↔ ∀ k, k < ls.length → goodAt own ls k = true := by
  simp [rlB, List.all_eq_true]
theorem rlB_false {own : List UInt8} {ls : List (List UInt8)} {k : Nat} (hk : k < ls.length) (h : goodAt own ls k = false) : rlB own ls = false := by
  cases hr : rlB own ls with
  | false => rfl
  | true => rw [(rlB_iff own ls).1 hr k hk] at h; cases h
theorem namesOf_length (S : List Nt) : (namesOf S).length = S.length := by simp [namesOf]
theorem orderTo_length (S : List Nt) : ∀ (k : Nat) (o : List (List UInt8)), orderTo S k = some o → o.length = k
  | 0, o, h => by simp [orderTo] at h; subst h; rfl
  | k + 1, o, h => by
    simp only [orderTo] at h
    split at h
    · cases h
    · rename_i o' ho'
      split at h
      · cases h
      · cases h; simp [orderTo_length S k o' ho']
theorem orderTo_none (S : List Nt) : ∀ (k j : Nat), orderTo S k = none → k ≤ j → orderTo S j = none
  | k, 0, h, hj => by obtain rfl : k = 0 := by omega
                      exact h
  | k, j + 1, h, hj => by
    by_cases e : k = j + 1
    · subst e; exact h
    · simp [orderTo, orderTo_none S k j h (by omega)]

end Go.Proofs.Ytnjjpahpaeblfab
