/- What Show of the document answers. -/
import Derived.Test.YtmmlmpcalhfigaaShowS
import Derived.Test.YtmmlmpcalhfigaaSigP
import Derived.BigQuiet
namespace Go.Proofs.Ytmmlmpcalhfigaa
open Go.RowKit
set_option linter.unusedVariables false

def szOf (v : Value) : Nat := match v with | .string b => b.size | _ => 0
theorem ba_append (x y : List UInt8) : ({ data := x.toArray } : ByteArray) ++ { data := y.toArray } = ⟨(x ++ y).toArray⟩ := by
  apply ByteArray.ext
  rw [ByteArray.data_append]
  simp
theorem hex_cut (d : Nat) (hd : d < 16) (acc : List UInt8) : ({ data := #[48, 49, 50, 51, 52, 53, 54, 55, 56, 57, 65, 66, 67, 68, 69, 70] } : ByteArray).extract d (d + 1) ++ { data := acc.toArray } = ⟨(hexC d :: acc).toArray⟩ := by
  have h1 : ({ data := #[48, 49, 50, 51, 52, 53, 54, 55, 56, 57, 65, 66, 67, 68, 69, 70] } : ByteArray).extract d (d + 1) = ⟨[hexC d].toArray⟩ := by
    apply ByteArray.ext
    rw [ByteArray.data_extract]
    apply Array.toList_inj.1
    simp only [Array.toList_extract, List.extract_eq_take_drop]
    rw [show d + 1 - d = 1 by omega]
    exact hexC_at d hd
  rw [h1, ba_append]
  rfl
theorem int_u64 {a b : Int} (h : a = b) : Value.int .u64 a = .int .u64 b := by rw [h]
theorem str_eq {a b : ByteArray} (h : a = b) : Value.string a = .string b := by rw [h]
theorem dig_next {K v V : Nat} {acc : List UInt8} (hl : acc.length ≤ 64) (h : digS K 65 v [] = digS K (65 - acc.length) V acc) (hp : 0 < V ∨ acc = []) : digS K 65 v [] = digS K (65 - (hexC (V % K) :: acc).length) (V / K) (hexC (V % K) :: acc) := by
  rw [h]
  obtain ⟨f, hf⟩ : ∃ f, 65 - acc.length = f + 1 := ⟨64 - acc.length, by omega⟩
  have h2 : 65 - (hexC (V % K) :: acc).length = f := by simp only [List.length_cons]; omega
  rw [hf, h2, digS_step hp]
theorem rep_next {j W : Nat} {D : List UInt8} : ({ data := #[48] } : ByteArray) ++ { data := (List.replicate j (48 : UInt8) ++ D).toArray } = ⟨(List.replicate (j + 1) (48 : UInt8) ++ D).toArray⟩ := by
  have := ba_append [48] (List.replicate j (48 : UInt8) ++ D)
  rw [show ({ data := #[48] } : ByteArray) = { data := [48].toArray } from rfl, this]
  rfl
theorem ret_show {a b : ByteArray} {x : Int} (h : a = b) : Ending.returned (.tuple #[.string a, .int .i64 x]) = .returned (.tuple #[.string b, .int .i64 x]) := by rw [h]

end Go.Proofs.Ytmmlmpcalhfigaa
