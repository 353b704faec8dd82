/- What Get and Len of package shelf answer: the note of that name, its leans in new memory; how many notes there are. -/
import Derived.Test.YtnjjpahpaeblfabNext
namespace Go.Proofs.Ytnjjpahpaeblfab
open Go.RowKit Go.Maps Go.Sort
set_option linter.unusedVariables false

def nt0 : Nt := ⟨[], 0, 0, []⟩
def getNt (S : List Nt) (x : List UInt8) : Nt := match S.find? (fun n => n.name == x) with | some n => n | none => nt0
theorem ok0 : NtOk nt0 := ⟨by decide, by decide, by decide, by decide, by decide, by simp [StrsOk, nt0]⟩

theorem getNt_in {w : World} {p b : Nat} {F : Nat → Prop} {S : List Nt} {D : DataW Value} (h : SH w p b F S D) {n : Nt} (hn : n ∈ S) : getNt S n.name = n := by
  unfold getNt
  cases hf : S.find? (fun m => m.name == n.name) with
  | none => have := List.find?_eq_none.1 hf n hn; simp at this
  | some m => exact h.eq_of_name (List.mem_of_find?_eq_some hf) hn (by simpa using List.find?_some hf)
theorem getNt_out {S : List Nt} {x : List UInt8} (hx : x ∉ S.map Nt.name) : getNt S x = nt0 := by
  unfold getNt
  cases hf : S.find? (fun m => m.name == x) with
  | none => rfl
  | some m => exact absurd (List.mem_map.2 ⟨m, List.mem_of_find?_eq_some hf, by simpa using List.find?_some hf⟩) hx

/-- A look-up with 'ok', the note told. -/
theorem SH.lookG {w : World} {p b : Nat} {F : Nat → Prop} {S : List Nt} {D : DataW Value} (h : SH w p b F S D) (x : List UInt8) (hx : x.length ≤ maxLen) : NtOk (getNt S x) ∧ ∃ q c, (∀ (W : World), W.ownsMap Try.prog 9 noteR b S.length D →
    (Instr.lookup 44 (.map (some b)) (.string ⟨x.toArray⟩) true).run Try.prog W = .ok (.tuple #[.agg #[.string ⟨(getNt S x).name.toArray⟩, .int .i64 (getNt S x).words, .int .u32 (getNt S x).sum, .slice q (getNt S x).leans.length c], .bool ((S.map Nt.name).contains x)]) W ∧
    (Instr.lookup 44 (.map (some b)) (.string ⟨x.toArray⟩) false).run Try.prog W = .ok (.agg #[.string ⟨(getNt S x).name.toArray⟩, .int .i64 (getNt S x).words, .int .u32 (getNt S x).sum, .slice q (getNt S x).leans.length c]) W) ∧ StrsAt w (.slice q (getNt S x).leans.length c) (getNt S x).leans := by
  by_cases hin : x ∈ S.map Nt.name
  · obtain ⟨n, hn, rfl⟩ := List.mem_map.1 hin
    obtain ⟨a, cap, h1, h2, h3, _⟩ := h.look_in hn
    rw [getNt_in h hn]
    exact ⟨(h.inn n hn).1, _, _, fun W hW => look_val hx h1 (h2.trans (List.contains_iff_mem.2 hin).symm) W hW, h3⟩
  · obtain ⟨h1, h2⟩ := h.look_out hin
    rw [getNt_out hin]
    refine ⟨ok0, none, 0, fun W hW => look_val hx h1 (h2.trans ?_) W hW, .inl ⟨rfl, none, 0, rfl, fun _ => rfl⟩⟩
    cases hc : (S.map Nt.name).contains x with
    | false => rfl
    | true => exact absurd (List.contains_iff_mem.1 hc) hin

set_option maxRecDepth 100000 in
set_option maxHeartbeats 400000 in
theorem len_any (w : World) (p b : Nat) (F : Nat → Prop) (S : List Nt) (D : DataW Value) (h : SH w p b F S D) : Calls Try.prog 10 #[.pointer (some ⟨p, 0, none⟩)] w fun e w' => e = .returned (.int .i64 S.length) ∧ w' = w := by
  have hcell := h.cell
  have hown := h.own
  have HSZ : Hid (Maps.size D = S.length) := h.size
  clear h
  go_enter Try.func10, Try.ntmps10
  go_wp2_with (at_len; refine wpList_len_own _ rfl _ 44 rfl 9 30 Try.underlying44 noteR b S.length D rfl hown ?_)
  go_ret
  exact ⟨ret_int (by rw [HSZ.out]), rfl⟩
end Go.Proofs.Ytnjjpahpaeblfab
