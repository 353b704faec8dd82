/- What the document's Rule answers. -/
import Derived.Test.YtdbledfpphkppabRfb
import Derived.Test.YtdbledfpphkppabQuietL
namespace Go.Proofs.Ytdbledfpphkppab
open Go.RowKit
set_option linter.unusedVariables false

def dbS (j : Nat) : Nat := (bm 27 (UInt8.ofNat j) 2).toNat
def lowW (j : Nat) : Nat := sbN j ||| dbS j * 65536 ||| rndS (j : Int) * 16777216
def ruT (k j : Nat) : Nat := (if j < k then lowW j else 0) ||| (if usN j < k then usN j * 256 else 0)
theorem or_swap (x a b c : Nat) : x ||| a ||| b ||| c = a ||| b ||| c ||| x := by
  rw [Nat.or_comm (a ||| b ||| c) x, Nat.or_assoc, Nat.or_assoc, Nat.or_assoc]
theorem ru_step {k : Nat} (hk : k < 256) {j : Nat} (hj : j < 256) :
    (if j = sbN k then (if sbN k = k then ruT k k ||| sbN k ||| dbS k * 65536 ||| rndS (k : Int) * 16777216 else ruT k (sbN k)) ||| k * 256 else if j = k then ruT k k ||| sbN k ||| dbS k * 65536 ||| rndS (k : Int) * 16777216 else ruT k j) = ruT (k + 1) j := by
  have hu := us_sb hk
  have hv := us_sb hj
  rw [if_neg hu.2.2.2.1]
  by_cases h1 : j = sbN k
  · subst h1
    have hne := hu.2.2.2.1
    rw [if_pos rfl]
    unfold ruT
    rw [hu.1, if_neg (show ¬ k < k by omega), if_pos (show k < k + 1 by omega), Nat.or_zero]
    by_cases h2 : sbN k < k
    · rw [if_pos h2, if_pos (by omega)]
    · rw [if_neg h2, if_neg (by omega)]
  · rw [if_neg h1]
    have hnk : usN j ≠ k := fun h => h1 (by rw [← h, hv.2.1])
    have e : (if usN j < k then usN j * 256 else 0) = (if usN j < k + 1 then usN j * 256 else 0) := by
      by_cases h3 : usN j < k
      · rw [if_pos h3, if_pos (by omega)]
      · rw [if_neg h3, if_neg (by omega)]
    by_cases h2 : j = k
    · subst h2
      rw [if_pos rfl]
      unfold ruT
      rw [if_neg (show ¬ j < j by omega), if_pos (show j < j + 1 by omega), Nat.zero_or, e, or_swap]; rfl
    · rw [if_neg h2]
      unfold ruT
      rw [e]
      congr 1
      by_cases h3 : j < k
      · rw [if_pos h3, if_pos (by omega)]
      · rw [if_neg h3, if_neg (by omega)]
theorem rnd_lt (n : Int) : rndS n < 256 := by unfold rndS; split; omega; exact (pw 27 2 _).toNat_lt
theorem db_lt (j : Nat) : dbS j < 256 := (bm 27 (UInt8.ofNat j) 2).toNat_lt
theorem low_lt (j : Nat) : lowW j < 4294967296 := by
  have h1 := sbN_lt j; have h2 := db_lt j; have h3 := rnd_lt (j : Int)
  exact or_lt32 (or_lt32 (by omega) (by omega)) (by omega)
theorem ru_lt {k j : Nat} (hk : k ≤ 256) : ruT k j < 4294967296 := by
  unfold ruT; refine or_lt32 ?_ ?_
  · split; exact low_lt j; omega
  · split <;> omega
theorem Try.info34 : (Try.prog.info? 34).map (fun i => (i.zero, i.size, i.bytes)) = some (some (.int .u32 0), 1, 4) := by kernel_rfl
theorem map_same (n : Nat) (v : Value) : (List.range n).map (fun _ => v) = List.replicate n v := by rw [List.map_const', List.length_range]
theorem rowZ_of_made {w : World} {base g : Nat} (h : w.ownsRow base 34 1 (.slice (some ⟨g, 0, none⟩) 256 256) 256 (madeCells (Value.cells (.int .u32 0)) (256 * 1)).toList) : RowZ w g .u32 256 34 (fun _ => 0) := by
  have := row_full h
  rw [Nat.mul_one, show Value.cells (.int .u32 0) = #[.int .u32 0] from rfl, toList_madeCells_one] at this
  unfold RowZ rowZ
  rw [this, show (List.range 256).map (fun _ => Value.int .u32 0) = List.replicate 256 (Value.int .u32 0) from map_same 256 _]

end Go.Proofs.Ytdbledfpphkppab
