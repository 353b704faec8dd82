/- What Get and Len of package shelf answer: the note of that name, its leans in new memory; how many notes there are. -/
import Derived.Test.YtnjjpahpaeblfaaNext
namespace Go.Proofs.Ytnjjpahpaeblfaa
open Go.RowKit Go.Maps Go.Sort
set_option linter.unusedVariables false

def nt0 : Nt := ⟨[], 0, 0, []⟩
def getNt (S : List Nt) (x : List UInt8) : Nt := match S.find? (fun n => n.name == x) with | some n => n | none => nt0
theorem ok0 : NtOk nt0 := ⟨by decide, by decide, by decide, by decide, by decide, by simp [StrsOk, nt0]⟩

theorem getNt_in {w : World} {p b : Nat} {F : Nat → Prop} {S : List Nt} {D : DataW Value} (h : SH w p b F S D) {n : Nt} (hn : n ∈ S) : getNt S n.name = n := by
  unfold getNt
  cases hf : S.find? (fun m => m.name == n.name) with
  | none => have := List.find?_eq_none.1 hf n hn; simp at this
  | some m => exact h.eq_of_name (List.mem_of_find?_eq_some hf) hn (by simpa using List.find?_some hf)
theorem getNt_out {S : List Nt} {x : List UInt8} (hx : x ∉ S.map Nt.name) : getNt S x = nt0 := by
  unfold getNt
  cases hf : S.find? (fun m => m.name == x) with
  | none => rfl
  | some m => exact absurd (List.mem_map.2 ⟨m, List.mem_of_find?_eq_some hf, by simpa using List.find?_some hf⟩) hx

/-- A look-up with 'ok', the note told. -/
theorem SH.lookG {w : World} {p b : Nat} {F : Nat → Prop} {S : List Nt} {D : DataW Value} (h : SH w p b F S D) (x : List UInt8) (hx : x.length ≤ maxLen) : NtOk (getNt S x) ∧ ∃ q c, (∀ (W : World), W.ownsMap Try.prog 9 noteR b S.length D →
    (Instr.lookup 60 (.map (some b)) (.string ⟨x.toArray⟩) true).run Try.prog W = .ok (.tuple #[.agg #[.string ⟨(getNt S x).name.toArray⟩, .int .i64 (getNt S x).words, .int .u32 (getNt S x).sum, .slice q (getNt S x).leans.length c], .bool ((S.map Nt.name).contains x)]) W ∧
    (Instr.lookup 60 (.map (some b)) (.string ⟨x.toArray⟩) false).run Try.prog W = .ok (.agg #[.string ⟨(getNt S x).name.toArray⟩, .int .i64 (getNt S x).words, .int .u32 (getNt S x).sum, .slice q (getNt S x).leans.length c]) W) ∧ StrsAt w (.slice q (getNt S x).leans.length c) (getNt S x).leans := by
  by_cases hin : x ∈ S.map Nt.name
  · obtain ⟨n, hn, rfl⟩ := List.mem_map.1 hin
    obtain ⟨a, cap, h1, h2, h3, _⟩ := h.look_in hn
    rw [getNt_in h hn]
    exact ⟨(h.inn n hn).1, _, _, fun W hW => look_val hx h1 (h2.trans (List.contains_iff_mem.2 hin).symm) W hW, h3⟩
  · obtain ⟨h1, h2⟩ := h.look_out hin
    rw [getNt_out hin]
    refine ⟨ok0, none, 0, fun W hW => look_val hx h1 (h2.trans ?_) W hW, .inl ⟨rfl, none, 0, rfl, fun _ => rfl⟩⟩
    cases hc : (S.map Nt.name).contains x with
    | false => rfl
    | true => exact absurd (List.contains_iff_mem.1 hc) hin

set_option maxRecDepth 100000 in
set_option maxHeartbeats 1000000 in
theorem get_any (x : List UInt8) (hx : x.length ≤ maxLen) (w : World) (p b : Nat) (F : Nat → Prop) (S : List Nt) (D : DataW Value) (h : SH w p b F S D) :
    Calls Try.prog 23 #[.pointer (some ⟨p, 0, none⟩), .string ⟨x.toArray⟩] w fun e w' => ∃ a' cap', e = .returned (.tuple #[.agg #[.string ⟨(getNt S x).name.toArray⟩, .int .i64 (getNt S x).words, .int .u32 (getNt S x).sum, .slice a' (getNt S x).leans.length cap'], .bool ((S.map Nt.name).contains x)]) ∧
      w'.ownsRow w.heap.size 9 1 (.slice a' (getNt S x).leans.length cap') (getNt S x).leans.length ((getNt S x).leans.map encStr) ∧ Below w.heap.size w w' := by
  obtain ⟨hok, q, c, hlook, hst⟩ := h.lookG x hx
  have hcell := h.cell
  have hp : p < w.heap.size := World.block_lt_of_cell? w _ h.cell
  have HB : Hid (∀ o1 o2, Below w.heap.size w ((w.alloc o1).alloc o2)) := fun o1 o2 => ((Below.refl w.heap.size w).alloc (Nat.le_refl _) o1).alloc (by simp) o2
  have hl1 := fun o => (hlook _ (h.own.alloc o)).1
  generalize getNt S x = m at *
  have HOK : Hid (NtOk m) := hok
  have HST : Hid (∀ w', Below w.heap.size w w' → StrsAt w' (.slice q m.leans.length c) m.leans) := fun w' hb => hst.below hb (Nat.le_refl _)
  obtain ⟨r, hr⟩ : ∃ r, r = (S.map Nt.name).contains x := ⟨_, rfl⟩
  rw [← hr] at hl1 ⊢
  clear hr hlook hst h hok
  go_enter Try.func23, Try.ntmps23
  go_wp2_with (go_at_call 32; refine (copyNote_agg m HOK.out q c _ (HST.out _ (HB.out _ _))).mono ?_; rintro e w3 ⟨a3, c3, rfl, hr3, hb3⟩; obtain ⟨hc3, hf3⟩ := bcell (B := w.heap.size + 2) (hb3.mono (by simp)); have HB3 : Hid (Below w.heap.size w w3) := (HB.out _ _).trans (hb3.mono (by simp; omega)); have HR3 : Hid (w3.ownsRow (w.heap.size + 2) 9 1 (.slice a3 m.leans.length c3) m.leans.length (m.leans.map encStr)) := row_mono hr3 (by simp); clear hb3 hr3)
  refine bodyPost_ret (v := .tuple #[.agg #[.string ⟨m.name.toArray⟩, .int .i64 m.words, .int .u32 m.sum, .slice a3 m.leans.length c3], .bool r]) (by simp [results, Try.results23, go_sem, hc3]) rfl ⟨_, _, rfl, ?_, ?_⟩
  · refine row_mono (base := w.heap.size + 2) ?_ (by omega)
    repeat (refine row_setCell ?_ (by simp) _)
    exact HR3.out
  · repeat (refine Below.setCell ?_ (by simp) _)
    exact HB3.out

set_option maxRecDepth 100000 in
set_option maxHeartbeats 400000 in
theorem len_any (w : World) (p b : Nat) (F : Nat → Prop) (S : List Nt) (D : DataW Value) (h : SH w p b F S D) : Calls Try.prog 18 #[.pointer (some ⟨p, 0, none⟩)] w fun e w' => e = .returned (.int .i64 S.length) ∧ w' = w := by
  have hcell := h.cell
  have hown := h.own
  have HSZ : Hid (Maps.size D = S.length) := h.size
  clear h
  go_enter Try.func18, Try.ntmps18
  go_wp2_with (at_len; refine wpList_len_own _ rfl _ 60 rfl 9 32 Try.underlying60 noteR b S.length D rfl hown ?_)
  go_ret
  exact ⟨ret_int (by rw [HSZ.out]), rfl⟩
end Go.Proofs.Ytnjjpahpaeblfaa
