/- How a note among the arguments reads: its four fields as a note of the contracts. -/
import Derived.Test.YtnjjpahpaeblfabCopy
import Derived.ProofKit
import Derived.OpenShut
import Derived.ShutString
import Derived.ChangeOld
import Derived.SizedLaws
import Derived.SliceStrings
import Derived.Lib.SmallJoins
namespace Go.Proofs.Ytnjjpahpaeblfab
open Go.ChangeShapes Go.WideShapes Go.ChangeAt Go.RowKit Go.Joins
set_option linter.unusedVariables false

theorem Try.own0 : ownKnob Try.prog.godebug = none := by kernel_rfl
theorem Try.laid0 : laidOutB Try.prog = true := by kernel_rfl
theorem Try.bytes9 : Try.prog.bytesOf 9 = 16 := by kernel_rfl
theorem Try.cells9 : Try.prog.cellsOf 9 = 1 := by kernel_rfl
theorem Try.cells26 : Try.prog.cellsOf 26 = 4 := by kernel_rfl

theorem ba_eta (s : ByteArray) : (⟨s.data.toList.toArray⟩ : ByteArray) = s := by cases s; simp

theorem open_leans {H : Type} {enc : TypeId × Value → H} {W : World} {base : Nat} {spare : Nat → Bool} {held : Bool} {m : Nat} {v3 : Value} {y3 : DataW H × List MemPlace}
    (h3 : DataW.trod enc Try.prog W base spare held m 24 [v3] = some y3) (hr : ∀ x ∈ DataW.weights Try.prog 24 y3.1, x ≤ reachBytes) (hsp : ∀ b, spare b = true) :
    ∃ (ls : List (List UInt8)) (a : Option Addr) (cap : Nat), v3 = .slice a ls.length cap ∧ StrsOk ls ∧ ls.length ≤ cap ∧ cap ≤ maxLen ∧ StrsAt W (.slice a ls.length cap) ls := by
  rcases open_strings Try.underlying24 Try.underlying9 Try.cells9 h3 with ⟨hcs, hx⟩ | ⟨a, len, cap, ss, hcs, _, hl, hm, hz, hx, hcell, hws⟩
  · simp only [List.cons.injEq, and_true] at hcs
    exact ⟨[], none, 0, hcs, by simp [StrsOk], by simp, by simp, .inl ⟨rfl, none, 0, rfl, fun _ => rfl⟩⟩
  · simp only [List.cons.injEq, and_true] at hcs
    rw [hsp] at hz
    simp only [if_true] at hz
    have hlen : ((ss.take len).map fun s : ByteArray => s.data.toList).length = len := by simp; omega
    refine ⟨(ss.take len).map fun s : ByteArray => s.data.toList, some a, cap, by rw [hlen]; exact hcs, ⟨?_, ?_⟩, by rw [hlen]; exact hl, hm, ?_⟩
    · subst hx
      have := hr (((strs (H := H) (ss.take len)).length + (strs (H := H) (ss.drop len)).length) * Try.prog.bytesOf 9) (by simp [DataW.weights, Try.underlying24])
      rw [Try.bytes9] at this
      have hrb : reachBytes = 140737488351232 := by decide
      simp [strs] at this
      rw [hlen]
      omega
    · intro x hx'
      obtain ⟨s, hs, rfl⟩ := List.mem_map.1 hx'
      have := hws s (List.mem_of_mem_take hs)
      rw [Array.length_toList]; exact this
    · by_cases h0 : len = 0
      · subst h0
        exact .inl ⟨by simp, some a, cap, by simp, nofun⟩
      · have h00 := hcell 0 (by omega)
        obtain ⟨g, off, spot⟩ := a
        have hspot : spot = none := by simpa [Addr.add] using World.cell?_spot h00
        subst hspot
        rw [hlen]
        refine .inr ⟨g, off, cap, by rw [hlen], ?_, fun j hj => ?_⟩
        · have h1 := World.block_lt_of_cell? W _ h00
          simpa [Addr.add] using h1
        · rw [hlen] at hj
          have := hcell j (by omega)
          rw [show (⟨g, off, none⟩ : Addr).add j = ⟨g, off + j, none⟩ from Addr.add_lit ..] at this
          rw [this]
          have hj' : j < ss.length := by omega
          simp [encStr, List.getD, hj, hj']

/-- The four fields of a note. -/
theorem open_fields {H : Type} {enc : TypeId × Value → H} {W : World} {base : Nat} {spare : Nat → Bool} {held : Bool} {m : Nat} {v0 v1 v2 v3 : Value} {y0 y1 y2 y3 : DataW H × List MemPlace}
    (h0 : DataW.trod enc Try.prog W base spare held m 9 [v0] = some y0) (h1 : DataW.trod enc Try.prog W base spare held m 3 [v1] = some y1) (h2 : DataW.trod enc Try.prog W base spare held m 23 [v2] = some y2)
    (h3 : DataW.trod enc Try.prog W base spare held m 24 [v3] = some y3) (hr : ∀ x ∈ DataW.weights Try.prog 24 y3.1, x ≤ reachBytes) (hsp : ∀ b, spare b = true) :
    ∃ (n : Nt) (a : Option Addr) (cap : Nat), v0 = .string ⟨n.name.toArray⟩ ∧ v1 = .int .i64 n.words ∧ v2 = .int .u32 n.sum ∧ v3 = .slice a n.leans.length cap ∧ NtOk n ∧ n.leans.length ≤ cap ∧ cap ≤ maxLen ∧ StrsAt W (.slice a n.leans.length cap) n.leans := by
  obtain ⟨s, e0, _, hs⟩ := DataW.trod_string Try.underlying9 h0
  obtain ⟨wd, e1, _, hw⟩ := DataW.trod_int Try.underlying3 h1
  obtain ⟨sm, e2, _, hm⟩ := DataW.trod_int Try.underlying23 h2
  obtain ⟨ls, a, cap, e3, k1, k2, k3, k4⟩ := open_leans h3 hr hsp
  simp only [List.cons.injEq, and_true] at e0 e1 e2
  have b1 := bounds_i64 hw
  have b2 := bounds_u32 hm
  exact ⟨⟨s.data.toList, wd, sm, ls⟩, a, cap, by rw [e0, ba_eta], e1, e2, e3, ⟨by rw [Array.length_toList]; exact hs, b1.1, b1.2, b2.1, b2.2, k1⟩, k2, k3, k4⟩

/-- A note by value. -/
theorem open_note {H : Type} {enc : TypeId × Value → H} {W : World} {r : Reach} {b0 base : Nat} {spare : Nat → Bool} {held : Bool} {v : Value} {d : DataW H} {p : List MemPlace} (hv : Value.okWide Try.prog W r b0 26 v) (h : DataW.Trod enc Try.prog W base spare held 26 v d p)
    (hr : ∀ x ∈ DataW.weights Try.prog 26 d, x ≤ reachBytes) (hsp : ∀ b, spare b = true) :
    ∃ (n : Nt) (a : Option Addr) (cap : Nat), v = .agg #[.string ⟨n.name.toArray⟩, .int .i64 n.words, .int .u32 n.sum, .slice a n.leans.length cap] ∧ NtOk n ∧ n.leans.length ≤ cap ∧ cap ≤ maxLen ∧ StrsAt W (.slice a n.leans.length cap) n.leans := by
  obtain ⟨v0, v1, v2, v3, y0, y1, y2, y3, m, rfl, rfl, _, h0, h1, h2, h3⟩ := open_agg4 Try.underlying26 (by kernel_rfl) Try.cells26 hv h
  obtain ⟨n, a, cap, rfl, rfl, rfl, rfl, k⟩ := open_fields h0 h1 h2 h3 (fun x hx => hr x (by simp [DataW.weights, Try.underlying26, DataW.weightsEach, hx])) hsp
  exact ⟨n, a, cap, rfl, k⟩
end Go.Proofs.Ytnjjpahpaeblfab
