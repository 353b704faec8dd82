/- What Bytes, Decimal, blanks, missing, Left and Right of the document answer. -/
import Derived.Test.YtmmlmpcalhfigaaDoorShowA
import Derived.Test.YtmmlmpcalhfigaaDoorWid
namespace Go.Proofs.YtmmlmpcalhfigaaDoor
open Go.RowKit
set_option linter.unusedVariables false

/-- How many bytes a number has room in. -/
def bytesS (v : Nat) : Nat := if h : 255 < v then bytesS (v / 256) + 1 else 1
termination_by v
decreasing_by omega
theorem bytesS_in {v : Nat} (h : 255 < v) : bytesS v = bytesS (v / 256) + 1 := by rw [bytesS, dif_pos h]
theorem bytesS_end {v : Nat} (h : ¬ 255 < v) : bytesS v = 1 := by rw [bytesS, dif_neg h]
theorem bytesS_le : ∀ (k v : Nat), v < 256 ^ (k + 1) → bytesS v ≤ k + 1
  | 0, v, h => by rw [bytesS_end (by simpa using Nat.le_of_lt_succ h)]; exact Nat.le_refl _
  | k + 1, v, h => by
    by_cases hv : 255 < v
    · rw [bytesS_in hv]
      have h1 : v / 256 < 256 ^ (k + 1) := by
        rw [Nat.div_lt_iff_lt_mul (by omega), ← Nat.pow_succ]; exact h
      have := bytesS_le k (v / 256) h1
      omega
    · rw [bytesS_end hv]; omega
theorem bytesS_8 {v : Nat} (h : v ≤ 18446744073709551615) : bytesS v ≤ 8 := bytesS_le 7 v (by
  have : (256 : Nat) ^ (7 + 1) = 18446744073709551616 := by decide
  omega)

set_option maxRecDepth 100000 in
set_option maxHeartbeats 400000 in
theorem refBytes_any (v : Nat) (hv : v ≤ 18446744073709551615) (w : World) : Calls Tryd.prog 11 #[.int .u64 v] w fun e w' => e = .returned (.int .i64 (bytesS v)) ∧ w' = w := by
  have h8 := bytesS_8 hv
  go_enter Tryd.func11, Tryd.ntmps11
  go_wp2_with fail
  go_loop [0, 3] (fun vv nn => ∃ (V n : Nat), vv = .int .u64 V ∧ nn = .int .i64 n ∧ V ≤ 18446744073709551615 ∧ n + bytesS V = bytesS v + 1) (fun vv _ => (intOf vv).toNat)
  case atStart => exact ⟨v, 1, rfl, rfl, hv, by omega⟩
  case round =>
    obtain ⟨V, n, rfl, rfl, hV, hn⟩ := hrel
    have HN := hidD hn
    by_cases hp : 255 < V
    · have hpi : (255 : Int) < V := by omega
      have HI := hidD (bytesS_in hp)
      have hnb : n ≤ 8 := by have := HI.out; omega
      clear hn
      go_wp2
      go_round
      case rel => exact ⟨V / 256, n + 1, by go_num, by go_num, by omega, by have := HI.out; have := HN.out; omega⟩
      case measure => simp [intOf]; omega
    · have hpi : ¬ (255 : Int) < V := by omega
      have HI := hidD (bytesS_end hp)
      clear hn
      go_wp2
      go_ret
      refine ⟨?_, rfl⟩
      have h1 := HN.out
      rw [HI.out] at h1
      rw [show bytesS v = n by omega]
      rfl

/-- The text of a number with its sign. -/
def decS (v : Int) : List UInt8 := if 0 ≤ v then digS 10 65 v.toNat [] else 45 :: digS 10 65 (-v).toNat []
theorem show_dec (v : Nat) : showS v 10 0 = (digS 10 65 v [], 0) := by
  unfold showS markL
  simp [padS]
theorem digS_len (k : Nat) : ∀ (f v : Nat) (acc : List UInt8), (digS k f v acc).length ≤ acc.length + f
  | 0, v, acc => Nat.le_refl _
  | f + 1, v, acc => by
    rw [digS]
    split
    · have := digS_len k f (v / k) (hexC (v % k) :: acc)
      simp only [List.length_cons] at this
      omega
    · omega
theorem ret_str {a b : ByteArray} (h : a = b) : Ending.returned (.string a) = .returned (.string b) := by rw [h]

set_option maxRecDepth 100000 in
set_option maxHeartbeats 400000 in
theorem refDecimal_any (v : Int) (h0 : -9223372036854775808 ≤ v) (h1 : v ≤ 9223372036854775807) (w : World) : Calls Tryd.prog 9 #[.int .i64 v] w fun e w' => e = .returned (.string ⟨(decS v).toArray⟩) ∧ ∃ n, w' = w.drewN n := by
  by_cases hp : 0 ≤ v
  · obtain ⟨V, rfl⟩ : ∃ V : Nat, v = V := ⟨v.toNat, by omega⟩
    have HS := hidD (refShow_any V 10 0 (by omega) w)
    rw [show_dec] at HS
    have HE : Hid (decS (V : Int) = digS 10 65 V []) := by show decS _ = _; rw [decS, if_pos hp]; rfl
    generalize digS 10 65 V [] = D at *
    simp only at HS
    go_enter Tryd.func9, Tryd.ntmps9
    go_wp2_with (go_at_call 6; refine HS.out.mono ?_; rintro e w' ⟨rfl, n, rfl⟩)
    go_ret
    exact ⟨by rw [HE.out]; rfl, n, rfl⟩
  · obtain ⟨V, hV⟩ : ∃ V : Nat, -v = V := ⟨(-v).toNat, by omega⟩
    have hw1 : IntKind.u64.wrap (-(IntKind.u64.wrap v)) = V := by rw [IntKind.wrap_u64, IntKind.wrap_u64]; omega
    have HS := hidD (refShow_any V 10 0 (by omega) w)
    rw [show_dec] at HS
    have HE : Hid (decS v = 45 :: digS 10 65 V []) := by
      show decS v = _
      rw [decS, if_neg hp, hV]; rfl
    have hDl := digS_len 10 65 V []
    generalize digS 10 65 V [] = D at *
    simp only at HS
    simp only [List.length_nil] at hDl
    go_enter Tryd.func9, Tryd.ntmps9
    go_wp2_with (go_at_call 6; refine HS.out.mono ?_; rintro e w' ⟨rfl, n, rfl⟩)
    go_ret
    exact ⟨by rw [HE.out]; exact ret_str (ba_append [45] D), n, rfl⟩

theorem blank_next (j : Nat) : ({ data := (List.replicate j (32 : UInt8)).toArray } : ByteArray) ++ { data := #[32] } = ⟨(List.replicate (j + 1) (32 : UInt8)).toArray⟩ := by
  rw [show ({ data := #[32] } : ByteArray) = { data := [32].toArray } from rfl, ba_append, ← List.replicate_succ']

/-- How many characters a text lacks. -/
def missS (s : ByteArray) (width : Int) : Int := if width < 0 then 0 else (if 255 < width then 255 else width) - widS s 0
theorem missS_le (s : ByteArray) (width : Int) : missS s width ≤ 255 := by
  unfold missS
  split
  · omega
  · split <;> omega

def leftS (s : List UInt8) (width : Int) : List UInt8 := s ++ List.replicate (missS ⟨s.toArray⟩ width).toNat 32
def rightS (s : List UInt8) (width : Int) : List UInt8 := List.replicate (missS ⟨s.toArray⟩ width).toNat 32 ++ s
end Go.Proofs.YtmmlmpcalhfigaaDoor
