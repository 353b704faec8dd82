/- ShelfSums: for every slice of 32-bit words the law returns true and every argument reads behind the call as it read before; no condition. -/
import Derived.Test.YtnjjpahpaeblfaaRows
import Derived.Test.YtnjjpahpaeblfaaSumsW
import Derived.ProofKit
import Derived.OpenShut
import Derived.ShutString
import Derived.ChangeOld
import Derived.SizedLaws
namespace Go.Proofs.Ytnjjpahpaeblfaa
open Go.ChangeShapes Go.WideShapes Go.ChangeAt Go.RowKit
set_option linter.unusedVariables false

theorem Try.ownK : ownKnob Try.prog.godebug = none := by kernel_rfl
theorem Try.laidOut : laidOutB Try.prog = true := by kernel_rfl
theorem Try.bytes23 : Try.prog.bytesOf 23 = 4 := by kernel_rfl

theorem sums_walk (a0 : Option Addr) (len cap : Nat) (zs : List Int) (w : World) (hlt : ∀ x, a0 = some x → 0 < len → x.block < w.heap.size)
    (h : (a0 = none ∧ len = 0 ∧ cap = 0) ∨ ∃ x, a0 = some x ∧ len ≤ cap ∧ zs.length = cap ∧ cap * 4 ≤ 140737488351232 ∧ (∀ i, i < zs.length → w.cell? (x.add i) = some (.int .u32 (zs.getD i 0))) ∧ ∀ n ∈ zs, (Lit.int .u32 n).wf = true) :
    Calls Try.prog 3 #[.slice a0 len cap] w fun e w' => e = .returned (.bool true) ∧ Below w.heap.size w w' := by
  rcases h with ⟨rfl, rfl, rfl⟩ | ⟨x, rfl, hl, hz, hb, hc, hw⟩
  · exact sums_nil w
  · have hlen : (zs.take len).length = len := by rw [List.length_take]; omega
    have hok : WordsOk (zs.take len) := ⟨by omega, fun y hy => by
      have := bounds_u32 (hw y (List.mem_of_mem_take hy))
      omega⟩
    by_cases h0 : len = 0
    · subst h0
      exact sums_any [] (by simp [WordsOk]) (.slice (some x) 0 cap) w (.inl ⟨rfl, _, _, rfl⟩) (.inr ⟨x, cap, rfl⟩)
    · obtain ⟨g, off, rfl, hc'⟩ := ints_at hc (by omega)
      have hs : WordsAt w (.slice (some ⟨g, off, none⟩) len cap) (zs.take len) := by
        refine .inr ⟨g, off, cap, by rw [hlen], hlt _ rfl (by omega), fun j hj => ?_⟩
        rw [hlen] at hj
        rw [hc' j (by omega)]
        simp [List.getD, hj]
      exact sums_any (zs.take len) hok _ w hs (.inr ⟨⟨g, off, none⟩, cap, by rw [hlen]⟩)

set_option maxRecDepth 100000 in
theorem sums_lifted (os : Os) (started : os.Started) (H : Type) (enc : TypeId × Value → H) :
    ReturnsInHanded {} Try.checked os 3 .any (Rows.shelfSumsSpec.pre6 enc Try.prog Try.f3 Rows.shelfSumsRow.domain false) (Rows.shelfSumsSpec.post enc Try.prog Try.f3 false true false false) := by
  refine returnsInHanded_of_change_sized (C := Try.checked) Try.ownK started (by kernel_rfl) Try.func3
    (ChangeSpec.witness6 (enc := enc) (C := Try.checked) false ⟨#[], #[.slice none 0 0], []⟩ 8 (by kernel_rfl) (by kernel_rfl) (by kernel_rfl) (by kernel_rfl)) ?_
  intro W base args ds gs before hval0 hW _ hsz0 _
  have hsz : (DataW.weightsEach Try.prog (Try.f3.params.toList ++ Rows.shelfSumsSpec.plain.varTypes Try.prog) (ds ++ gs)).all (· ≤ reachBytes) = true := hsz0
  clear hsz0
  have hval : ∀ (j : Nat) t v, Try.f3.params[j]? = some t → args[j]? = some v → Value.okWide Try.prog W .any base t v := hval0
  have hW' := hW
  obtain ⟨p, q, hA0, hV, rfl, hfz, hnd⟩ := hW
  have hA : DataW.TrodAll enc Try.prog W 0 (fun _ => true) true Try.f3.params.toList args.toList ds p := hA0
  rw [Try.params3] at hA hval hsz
  obtain ⟨v0, vs0, d0, ds0, p0, q0, hargs, rfl, rfl, h0, r0⟩ := trodAll_cons hA
  obtain ⟨rfl, rfl, rfl⟩ := trodAll_nil r0
  obtain rfl : args = #[v0] := by cases args; simp_all
  obtain ⟨rfl, rfl⟩ := trodVars_none hV
  obtain ⟨a0, len0, cap0, rfl⟩ := okWide_slice Try.underlying22 (hval 0 22 v0 rfl rfl)
  have k0 := h0
  have lt0 : ∀ x ∈ p0, x.block < W.heap.size := by obtain ⟨m, hm⟩ := k0; exact DataW.trod_lt m _ _ _ hm
  have hwalk : Calls Try.prog 3 #[.slice a0 len0 cap0] W fun e w' => e = .returned (.bool true) ∧ Below W.heap.size W w' := by
    obtain ⟨fuel, hf⟩ := h0
    rcases open_ints Try.underlying22 Try.underlying23 (by kernel_rfl) hf with ⟨hcs, _⟩ | ⟨x, l, c, zs, hcs, _, hl, hm, hz, hx, hcell, hwz⟩
    · simp [Value.cells] at hcs
      obtain ⟨rfl, rfl, rfl⟩ := hcs
      exact sums_walk _ _ _ [] W (fun x h => by cases h) (.inl ⟨rfl, rfl, rfl⟩)
    · simp [Value.cells] at hcs
      obtain ⟨rfl, rfl, rfl⟩ := hcs
      have hz' : zs.length = cap0 := by simpa using hz
      simp only [Prod.mk.injEq] at hx
      obtain ⟨rfl, _⟩ := hx
      have hs := sized_slice hsz (j := 0) (t := 22) rfl rfl Try.underlying22
      rw [Try.bytes23] at hs
      have hr : reachBytes = 140737488351232 := by decide
      have hlen : (lits (H := H) .u32 (zs.take len0)).length + (lits (H := H) .u32 (zs.drop len0)).length = cap0 := by simp [lits]; omega
      rw [hlen, hr] at hs
      refine sums_walk _ _ _ zs W (fun y hy h0 => ?_) (.inr ⟨x, rfl, hl, hz', hs, hcell, hwz⟩)
      cases hy
      have := hcell 0 (by omega)
      have h1 := World.block_lt_of_cell? W _ this
      obtain ⟨g, off, rfl, _⟩ := ints_at hcell (by omega)
      simpa [Addr.add] using h1
  clear hA0 hval0
  refine hwalk.mono fun e W' ⟨he, bel⟩ => ?_
  subst he
  exact ⟨_, rfl, _, _, _, [], _, [], hW', trodAll_mk1 (shut_bool Try.underlying4 _), (trodAll_cons_mk (Below.trod Try.laidOut (by kernel_rfl) (of_decide_eq_true (by kernel_rfl)) k0 bel lt0) trodAll_mk0), rfl, bel.frame _, fun h => by cases h⟩

theorem shelfSums_holds : Rows.ShelfSumsSaid :=
  OpenClaim.holds_of_wide 3 Try.f3 rfl rfl rfl rfl rfl rfl rfl ⟨rfl, rfl, rfl, rfl, rfl⟩ rfl rfl rfl rfl rfl (by kernel_rfl) Try.func3 (by kernel_rfl)
    (of_decide_eq_true (by kernel_rfl)) (by unfold Func.isWrapper; first | (rw [if_pos (by decide +kernel)]; kernel_rfl) | (rw [if_neg (by decide +kernel)]; exact ⟨rfl, rfl⟩))
    (fun os started H enc _ => sums_lifted os started H enc)
#print axioms shelfSums_holds
end Go.Proofs.Ytnjjpahpaeblfaa
