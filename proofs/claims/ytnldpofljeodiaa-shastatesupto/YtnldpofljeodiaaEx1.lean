/- Resume of a digest; own. -/
import Derived.Test.YtnldpofljeodiaaGv
import Derived.Test.YtnldpofljeodiaaSt9
import Derived.Test.YtnldpofljeodiaaCt
namespace Go.Proofs.Ytnldpofljeodiaa
open Go.RowKit
set_option linter.unusedVariables false

theorem resume_back (k : Nat) (hk : k = 256 ∨ k = 512) (c : Nat → Nat) (hc : ∀ j, c j < mdK k) (n : Nat) (hn : n < 18446744073709551616) (hnb : n % blkN k = 0) (g0 : Nat) (w : World) (hr : RowZ w g0 .u8 (k / 8) 5 (fun i => ((cbK k c i).toNat : Int))) : Calls Try.prog 24 #[.int .i64 (k : Int), .slice (some ⟨g0, 0, none⟩) (k / 8) (k / 8), .int .u64 (n : Int)] w fun e w' => ∃ g, e = .returned (.tuple #[.pointer (some ⟨g, 0, none⟩), .int .i64 0]) ∧ w.heap.size ≤ g ∧ StAt w' g k ⟨n, fun _ => 0, c⟩ ∧ Below w.heap.size w w' := by
  rcases hk with rfl | rfl
  · refine (resume256_any (cbS 4 c) n hn hnb g0 w hr).mono fun e w' ⟨g, h1, h2, h3, h4⟩ => ⟨g, h1, h2, h3.congr _ rfl (fun _ _ => rfl) (fun j _ => be_back 4 (by decide) c j (hc j)), h4⟩
  · refine (resume512_any (cbS 8 c) n hn hnb g0 w hr).mono fun e w' ⟨g, h1, h2, h3, h4⟩ => ⟨g, h1, h2, h3.congr _ rfl (fun _ _ => rfl) (fun j _ => be_back 8 (by decide) c j (hc j)), h4⟩
theorem empty_ownB (w : World) : (w.alloc (.cells #[] (5 : TypeId))).ownsRow w.heap.size 5 1 (.slice (some ⟨w.heap.size, 0, none⟩) 0 0) 0 [] := full_row (Nat.le_refl _) rfl (by unfold maxLen; omega) (heap_alloc_last _ _)
set_option maxRecDepth 100000 in
theorem own_any (l : List UInt8) (hl : l.length ≤ 140737488355200) (v : Value) (w : World) (hv : ByAt w v l) : Calls Try.prog 8 #[v] w fun e w' => ∃ vo, e = .returned vo ∧ w'.ownsRow w.heap.size 5 1 vo l.length (l.map encB) ∧ Below w.heap.size w w' := by
  have HV := hidD hv
  obtain ⟨a', cap, rfl, hsh⟩ := hv.shape
  clear hsh hv
  have HAL : Hid (∀ (w' : World) o, Below w'.heap.size w' (w'.alloc o)) := fun w' o => (Below.refl _ _).alloc (Nat.le_refl _) o
  generalize hLL : l.length = LL at *
  have HLL := hidD hLL
  clear hLL
  go_enter Try.func8, Try.ntmps8
  go_wp2_with (at_builtin; refine wpList_append_by rfl _ _ rfl w.heap.size (.slice (some ⟨w.heap.size, 0, none⟩) 0 0) 0 [] rfl (empty_ownB w) (.slice a' LL cap) l rfl (HV.out.next (HAL.out _ _)) (by rw [HLL.out]; omega) (by simp) ?_; intro v8 w8 hown8 hg8; rw [HLL.out, Nat.zero_add, List.nil_append] at hown8; have HO8 := hidD hown8; have HB8 := hidD (row_grown (empty_ownB w) (HAL.out _ _) hg8 (by simp)); clear hown8 hg8)
  go_ret
  exact ⟨_, rfl, HO8.out, HB8.out⟩
end Go.Proofs.Ytnldpofljeodiaa
