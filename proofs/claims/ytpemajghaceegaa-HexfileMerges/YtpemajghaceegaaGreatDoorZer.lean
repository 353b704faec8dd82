/- Great arrays of noughts. -/
import Derived.Test.YtpemajghaceegaaGreatDoorBas
namespace Go.Proofs.YtpemajghaceegaaGreatDoor
open Go.RowKit
set_option linter.unusedVariables false

/- are these n values all told by p? -/
noncomputable def chkZ (p : Value → Bool) (l : List Value) : Nat → Bool :=
  List.rec (motive := fun _ => Nat → Bool) (fun n => Nat.rec (motive := fun _ => Bool) true (fun _ _ => false) n)
    (fun v _ ih n => Nat.rec (motive := fun _ => Bool) false (fun m _ => match p v with | true => ih m | false => false) n) l
theorem chk_spec {p : Value → Bool} {x : Value} (hp : ∀ v, p v = true → v = x) : ∀ (l : List Value) (n : Nat), chkZ p l n = true → l = List.replicate n x
  | [], 0, _ => rfl
  | [], n + 1, h => by cases h
  | v :: l, 0, h => by cases h
  | v :: l, n + 1, h => by
    have h' : (match p v with | true => chkZ p l n | false => false) = true := h
    cases hv : p v with
    | false => rw [hv] at h'; cases h'
    | true =>
      rw [hv] at h'
      rw [hp v hv, chk_spec hp l n h']; rfl
noncomputable def zlist (z : Option Value) : List Value := match z with | some (.agg a) => a.toList | _ => []
theorem zero_great {o : Option TypeInfo} {p : Value → Bool} {x : Value} {n : Nat} (hp : ∀ v, p v = true → v = x) (h1 : o.map (·.size) = some (n + 1)) (h2 : chkZ p (zlist (o.bind (·.zero))) (n + 1) = true) :
    o.map (fun i => (i.zero, i.size)) = some (some (.agg (Array.replicate (n + 1) x)), n + 1) := by
  cases o with
  | none => cases h1
  | some i =>
    have h3 := chk_spec hp _ _ h2
    have hs : i.size = n + 1 := Option.some.inj h1
    have hz : zlist i.zero = List.replicate (n + 1) x := h3
    cases hi : i.zero with
    | none => rw [hi] at hz; cases hz
    | some v =>
      rw [hi] at hz
      cases v with
      | agg a =>
        have ha : a = Array.replicate (n + 1) x := by
          apply Array.toList_inj.1
          rw [Array.toList_replicate]
          exact hz
        show some (i.zero, i.size) = _
        rw [hi, hs, ha]
      | _ => cases hz
def isFalse (v : Value) : Bool := match v with | .bool false => true | _ => false
theorem isFalse_spec : ∀ v, isFalse v = true → v = .bool false := fun v h => by
  unfold isFalse at h
  split at h
  · rfl
  · cases h
def isNought (v : Value) : Bool := match v with | .int .u8 (.ofNat 0) => true | _ => false
theorem isNought_spec : ∀ v, isNought v = true → v = .int .u8 0 := fun v h => by
  unfold isNought at h
  split at h
  · rfl
  · cases h
theorem Tryz.zeroHv : (Tryz.prog.info? 111).map (fun i => (i.zero, i.size)) = some (some (.agg (Array.replicate 65536 (.bool false))), 65536) := zero_great (n := 65535) isFalse_spec (by kernel_rfl) (by kernel_rfl)
theorem Tryz.zeroAl : (Tryz.prog.info? 118).map (fun i => (i.zero, i.size)) = some (some (.agg (Array.replicate 65536 (.int .u8 0))), 65536) := zero_great (n := 65535) isNought_spec (by kernel_rfl) (by kernel_rfl)
end Go.Proofs.YtpemajghaceegaaGreatDoor
