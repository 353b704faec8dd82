/- What Turned answers; RsNils. -/
import Derived.Test.YtdpkeffkpecmjaaGl
import Derived.Test.YtdpkeffkpecmjaaRma
namespace Go.Proofs.Ytdpkeffkpecmjaa
open Go.RowKit
set_option linter.unusedVariables false

theorem rev_step (l : List UInt8) (j : Nat) (h : j < l.length) : (l.drop j).reverse = (l.drop (j + 1)).reverse ++ [cf l j] := by
  rw [← List.getElem_cons_drop h, List.reverse_cons]
  unfold cf
  rw [List.getD_eq_getElem?_getD, List.getElem?_eq_getElem h]; rfl
set_option maxRecDepth 100000 in
set_option maxHeartbeats 1600000 in
theorem turned_any (word : List UInt8) (hl : word.length ≤ 65536) (v : Value) (w : World) (hv : SlAt w v word) : Calls Try.prog 36 #[v] w fun e w' => ∃ u, e = .returned u ∧ SlAt w' u word.reverse ∧ Below w.heap.size w w' := by
  have HV := hidD hv
  obtain ⟨⟨a, ca, rfl, hca1, hca2⟩, hby⟩ := hv
  have HAL : Hid (∀ (w' : World) o, Below w'.heap.size w' (w'.alloc o)) := fun w' o => (Below.refl _ _).alloc (Nat.le_refl _) o
  have HST := hidD (rev_step word)
  have HD0 : Hid (word.drop 0 = word) := rfl
  have HDN : Hid ((word.drop word.length).reverse = []) := by show _ = _; simp
  have HRL : Hid (∀ m, ((word.drop m).reverse).length = word.length - m) := fun m => by simp
  clear hby
  generalize hnn : word.length = n at *
  go_enter Try.func36, Try.ntmps36
  go_wp2_with fail
  go_loopw [3, 4] (fun o i wr => ∃ m : Nat, m ≤ n ∧ i = .int .i64 ((m : Int) - 1) ∧ wr.ownsRow w.heap.size 5 1 o ((word.drop m).reverse).length (((word.drop m).reverse).map encB) ∧ Below w.heap.size w wr) (fun _ i _ => (intOf i + 1).toNat)
  case atStart => exact ⟨n, Nat.le_refl _, rfl, by rw [HDN.out]; exact World.ownsRow_nil _ _ _ _, Below.refl _ _⟩
  case round =>
    obtain ⟨m, hm, rfl, hown, hbel⟩ := hrel
    have HBW := hidD hbel
    have HOW := hidD hown
    clear hown
    cases m with
    | zero =>
      rw [show (((0 : Nat) : Int) - 1) = -1 by omega] at *
      clear hbel
      go_wp2_with fail
      go_ret
      exact ⟨_, rfl, by have := sl_of_own HOW.out; rw [HD0.out] at this; exact this, HBW.out⟩
    | succ j =>
      rw [show (((j + 1 : Nat) : Int) - 1) = (j : Int) by omega] at *
      have hj : j < n := by omega
      have hji : (j : Int) < n := by omega
      have HN := hidD (HST.out j hj)
      have HL := hidD (HRL.out (j + 1))
      obtain ⟨g, o, cap, hv', hg, hcell⟩ : ∃ g o cap, Value.slice a n ca = .slice (some ⟨g, o, none⟩) n cap ∧ g < w.heap.size ∧ ∀ j, j < n → w.cell? ⟨g, o + j, none⟩ = some (encB (word.getD j 0)) := by
        rcases HV.out.by' with ⟨h0, _⟩ | h
        · rw [h0] at hnn; simp at hnn; omega
        · rw [hnn] at h; exact h
      injection hv' with h1 h2 h3
      subst h1 h3
      have f1 : wr.cell? ⟨g, o + j, none⟩ = some (.int .u8 ((cf word j).toNat : Int)) := (hbel.cell (p := ⟨g, o + j, none⟩) hg).trans (hcell j hj)
      have HBS : Hid (∀ w' : World, ByAt (w'.alloc (.cells #[.int .u8 ((cf word j).toNat : Int)] (5 : TypeId))) (.slice (some ⟨w'.heap.size, 0, none⟩) 1 1) [cf word j]) := fun w' => (sl_new w' [cf word j] _ 1 rfl rfl (by omega)).by'
      clear hcell hbel
      generalize (word.drop (j + 1)).reverse = L at *
      generalize cf word j = x at *
      go_wp2_with (at_builtin; refine wpList_append_by rfl _ _ rfl w.heap.size u3 L.length (L.map encB) rfl (HOW.out.alloc _) (.slice (some ⟨wr.heap.size, 0, none⟩) 1 1) [x] rfl (HBS.out wr) (by have := HL.out; simp; omega) (by have := HBW.out.size; simp; omega) ?_; intro v8 w8 hown8 hg8; have HO8 := hidD hown8; have HB8 := hidD (row_grown (HOW.out.alloc _) (Below.next HBW.out (HAL.out _ _)) hg8 (by have := HBW.out.size; simp; omega)); clear hown8 hg8)
      go_roundw
      case rel => exact ⟨j, by omega, by go_num, by rw [HN.out, List.length_append, List.map_append]; exact HO8.out, HB8.out⟩
      case measure => simp [intOf]
end Go.Proofs.Ytdpkeffkpecmjaa
