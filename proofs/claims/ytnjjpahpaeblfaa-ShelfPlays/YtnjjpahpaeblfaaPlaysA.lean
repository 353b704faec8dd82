/- What the walk of ShelfPlays asks of the parts: Add of the document's shelf with its blocks; the notes of a shelf whatever their order. -/
import Derived.Test.YtnjjpahpaeblfaaDoc
import Derived.Test.YtnjjpahpaeblfaaLooks
import Derived.Test.YtnjjpahpaeblfaaClone
namespace Go.Proofs.Ytnjjpahpaeblfaa
open Go.RowKit Go.Maps Go.Sort
set_option linter.unusedVariables false

theorem grown_cell {w w' : World} {row : Option Nat} (h : w.grownBy w' row) {b o : Nat} (hb : b < w.heap.size) (hne : some b ≠ row) : w'.cell? ⟨b, o, none⟩ = w.cell? ⟨b, o, none⟩ := World.cell?_of_block (a := ⟨b, o, none⟩) (h.block b hb hne)
theorem StrsAt.grown {w w' : World} {row : Option Nat} {sl : Value} {ss : List (List UInt8)} (h : StrsAt w sl ss) (hg : w.grownBy w' row) (hn : ∀ g, sl.ownBlock = some g → some g ≠ row) : StrsAt w' sl ss := h.kept hg.size (fun g hb hlt => hg.block g hlt (hn g hb))

theorem notes_perm {S S' : List Nt} (hp : S.Perm S') (hn : (S.map Nt.name).Nodup) : notesOf S = notesOf S' := by
  have h1 : namesOf S = namesOf S' := merge_perm (hp.map Nt.name)
  unfold notesOf
  rw [h1]
  refine List.map_congr_left fun x _ => ?_
  unfold getNt
  rw [find_perm hp hn x]

theorem refAdd_doc (n : Nt) (hn : NtOk n) (a : Option Addr) (cap : Nat) (hcap : n.leans.length ≤ cap) (hcm : cap ≤ maxLen) (w : World) (hs : StrsAt w (.slice a n.leans.length cap) n.leans) (r base : Nat) (G : Nat → Prop) (v : Value) (T : List Ne) (S : List Nt)
    (h : RSF w r base G v T) (hbase : base ≤ w.heap.size) (h64 : T.length ≤ 64) (hS : Same S T) :
    Calls Try.prog 17 #[.pointer (some ⟨r, 0, none⟩), .agg #[.string ⟨n.name.toArray⟩, .int .i64 n.words, .int .u32 n.sum, .slice a n.leans.length cap]] w fun e w' => e = .returned (.int .i64 (addI S n)) ∧
      ∃ G' v' T', RSF w' r base G' v' T' ∧ Same (addS S n) T' ∧ (∀ j, G' j → G j ∨ (w.heap.size ≤ j ∧ j < w'.heap.size)) ∧ w.grownBy w' (some r) := by
  refine (refAdd_any n hn a cap hcap hcm w hs r base v T S h.cell h.fr h.row h.ok h64 hS).mono ?_
  rintro e w' ⟨rfl, h1⟩
  refine ⟨rfl, ?_⟩
  rcases h1 with ⟨h0, hb⟩ | ⟨h0, W, k, v', a', c', hf, rfl, hb, hrow, hl⟩
  · refine ⟨G, v, T, h.below hb (Nat.le_refl _), ?_, fun j hj => .inl hj, grown_of_below hb⟩
    rw [addS, if_neg h0]; exact hS
  · refine ⟨_, v', _, h.add hn hbase hb hrow hl hf.le, hS.add h0 hf a' c', fun j hj => hj, ?_⟩
    refine ⟨hb.os, hb.tape, hb.output, by simpa using hb.size, fun k hk hne => ?_⟩
    rw [set_other W r v' (fun e => hne (by rw [e]))]
    exact hb.block k hk
end Go.Proofs.Ytnjjpahpaeblfaa
