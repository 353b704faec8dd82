/- What a shelf is in memory: a struct with a map, whose entries are notes; New makes an empty one. -/
import Derived.Test.YtnjjpahpaeblfabCopy
namespace Go.Proofs.Ytnjjpahpaeblfab
open Go.RowKit Go.Maps
set_option linter.unusedVariables false

/-- How an element of a shelf's map reads: as itself. -/
def noteR (v : Value) : Option (DataW Value × List MemPlace) :=
  match v with
  | .agg cs => match cs.toList with
    | [.string _, .int .i64 _, .int .u32 _, .slice _ _ _] => some (.held v, [])
    | _ => none
  | _ => none

theorem noteR_mk (s : ByteArray) (a b : Int) (p : Option Addr) (l c : Nat) : noteR (.agg #[.string s, .int .i64 a, .int .u32 b, .slice p l c]) = some (.held (.agg #[.string s, .int .i64 a, .int .u32 b, .slice p l c]), []) := rfl
theorem noteR_inv {v : Value} {y : DataW Value × List MemPlace} (h : noteR v = some y) : ∃ c : ByteArray × Int × Int × Option Addr × Nat × Nat, v = .agg #[.string c.1, .int .i64 c.2.1, .int .u32 c.2.2.1, .slice c.2.2.2.1 c.2.2.2.2.1 c.2.2.2.2.2] ∧ y = (.held v, []) := by
  unfold noteR at h
  split at h
  · rename_i cs
    split at h
    · rename_i s a b p l c hcs
      refine ⟨(s, a, b, p, l, c), ?_, by cases h; rfl⟩
      have : cs = #[.string s, .int .i64 a, .int .u32 b, .slice p l c] := by
        apply Array.toList_inj.1; rw [hcs]
      rw [this]
    · cases h
  · cases h
theorem noteR_self {v : Value} {d : DataW Value} {ps : List MemPlace} (h : noteR v = some (d, ps)) : d = .held v := by
  obtain ⟨c, _, hy⟩ := noteR_inv h
  exact congrArg Prod.fst hy

def zeroNote : Value := .agg #[.string ⟨#[]⟩, .int .i64 0, .int .u32 0, .slice none 0 0]
theorem zero32 (w : World) : (zeroValue 30).run Try.prog w = .ok zeroNote w := by kernel_rfl

/-- A shelf: its struct at p, its map in block b, the notes S in the order in which they came; F: the blocks that are its own. -/
structure SH (w : World) (p b : Nat) (F : Nat → Prop) (S : List Nt) (D : DataW Value) : Prop where
  cell : w.cell? ⟨p, 0, none⟩ = some (.map (some b))
  own : w.ownsMap Try.prog 9 noteR b S.length D
  size : Maps.size D = S.length
  nodup : (S.map Nt.name).Nodup
  out : ∀ x, x ∉ S.map Nt.name → Maps.has D (.string x) = false
  inn : ∀ n ∈ S, NtOk n ∧ rightI n = 0 ∧ ∃ sl, (∀ zd, D.atKey (.string n.name) zd = .held (noteV n sl)) ∧ StrsAt w sl n.leans ∧ ∀ g, sl.ownBlock = some g → F g
  fp : F p
  fb : F b
  few : S.length ≤ 64

theorem StrsAt.kept {w w' : World} {sl : Value} {ss : List (List UInt8)} (h : StrsAt w sl ss) (hs : w.heap.size ≤ w'.heap.size) (hb : ∀ g, sl.ownBlock = some g → g < w.heap.size → w'.heap[g]? = w.heap[g]?) : StrsAt w' sl ss := by
  rcases h with h | ⟨g, off, cap, rfl, hg, hc⟩
  · exact .inl h
  · refine .inr ⟨g, off, cap, rfl, Nat.lt_of_lt_of_le hg hs, fun j hj => ?_⟩
    rw [World.cell?_of_block (a := ⟨g, off + j, none⟩) (hb g rfl hg)]
    exact hc j hj

theorem SH.kept {w w' : World} {p b : Nat} {F : Nat → Prop} {S : List Nt} {D : DataW Value} (h : SH w p b F S D) (hs : w.heap.size ≤ w'.heap.size) (hF : ∀ k, F k → k < w.heap.size → w'.heap[k]? = w.heap[k]?) : SH w' p b F S D := by
  have hp : p < w.heap.size := World.block_lt_of_cell? w _ h.cell
  refine ⟨?_, ?_, h.size, h.nodup, h.out, ?_, h.fp, h.fb, h.few⟩
  · rw [World.cell?_of_block (a := ⟨p, 0, none⟩) (hF p h.fp hp)]; exact h.cell
  · have hlt := h.own.lt
    obtain ⟨es, clock, hb, r⟩ := h.own
    exact ⟨es, clock, (hF b h.fb hlt).trans hb, r⟩
  · intro n hn
    obtain ⟨h1, h2, sl, h3, h4, h5⟩ := h.inn n hn
    exact ⟨h1, h2, sl, h3, h4.kept hs (fun g hg hlt => hF g (h5 g hg) hlt), h5⟩

theorem SH.below {B : Nat} {w w' : World} {p b : Nat} {F : Nat → Prop} {S : List Nt} {D : DataW Value} (h : SH w p b F S D) (hb : Below B w w') (hB : w.heap.size ≤ B) : SH w' p b F S D :=
  h.kept hb.size (fun k _ hk => hb.block k (Nat.lt_of_lt_of_le hk hB))

theorem SH.has_true {w : World} {p b : Nat} {F : Nat → Prop} {S : List Nt} {D : DataW Value} (h : SH w p b F S D) {n : Nt} (hn : n ∈ S) : Maps.has D (.string n.name) = true := by
  obtain ⟨_, _, sl, h3, _⟩ := h.inn n hn
  exact has_true_of_atKey h3
theorem SH.has_iff {w : World} {p b : Nat} {F : Nat → Prop} {S : List Nt} {D : DataW Value} (h : SH w p b F S D) (x : List UInt8) : Maps.has D (.string x) = (S.map Nt.name).contains x := by
  by_cases hx : x ∈ S.map Nt.name
  · obtain ⟨n, hn, rfl⟩ := List.mem_map.1 hx
    rw [h.has_true hn]
    exact (List.contains_iff_mem.2 hx).symm
  · rw [h.out x hx]
    cases hc : (S.map Nt.name).contains x with
    | false => rfl
    | true => exact absurd (List.contains_iff_mem.1 hc) hx
theorem SH.ne {w : World} {p b : Nat} {F : Nat → Prop} {S : List Nt} {D : DataW Value} (h : SH w p b F S D) : p ≠ b := by
  intro e
  obtain ⟨es, clock, hb, _⟩ := h.own
  have := h.cell
  rw [e] at this
  simp [World.cell?, hb] at this

theorem key_of {x : List UInt8} (h : x.length ≤ maxLen) : keyOf Try.prog 9 (.string ⟨x.toArray⟩) = some (.string x) := key_str h

/-- A look-up in a shelf's map, with 'ok' and without, in whatever world the map is that one. -/
theorem look_val {D : DataW Value} {x : List UInt8} (hx : x.length ≤ maxLen) {v : Value} {c : Bool} (hv : D.atKey (.string x) (.held zeroNote) = .held v) (hc : Maps.has D (.string x) = c) {b m : Nat} (W : World) (hW : W.ownsMap Try.prog 9 noteR b m D) :
    (Instr.lookup 44 (.map (some b)) (.string ⟨x.toArray⟩) true).run Try.prog W = .ok (.tuple #[v, .bool c]) W ∧ (Instr.lookup 44 (.map (some b)) (.string ⟨x.toArray⟩) false).run Try.prog W = .ok v W := by
  obtain ⟨v1, ps1, h1, e1⟩ := hW.look_ok law9 Try.underlying44 (zero32 W) (zd := .held zeroNote) (zp := []) rfl (key_str hx)
  obtain ⟨v2, ps2, h2, e2⟩ := hW.lookup law9 Try.underlying44 (zero32 W) (zd := .held zeroNote) (zp := []) rfl (key_str hx)
  have f1 := noteR_self e1
  have f2 := noteR_self e2
  rw [hv] at f1 f2
  cases f1; cases f2
  rw [hc] at h1
  exact ⟨h1, h2⟩

theorem SH.look_in {w : World} {p b : Nat} {F : Nat → Prop} {S : List Nt} {D : DataW Value} (h : SH w p b F S D) {n : Nt} (hn : n ∈ S) : ∃ a cap, D.atKey (.string n.name) (.held zeroNote) = .held (noteV n (.slice a n.leans.length cap)) ∧ Maps.has D (.string n.name) = true ∧ StrsAt w (.slice a n.leans.length cap) n.leans ∧ ∀ g, (Value.slice a n.leans.length cap).ownBlock = some g → F g := by
  obtain ⟨_, _, sl, h3, h4, h5⟩ := h.inn n hn
  obtain ⟨a, cap, rfl⟩ := h4.shape
  exact ⟨a, cap, h3 _, has_true_of_atKey h3, h4, h5⟩
theorem SH.look_out {w : World} {p b : Nat} {F : Nat → Prop} {S : List Nt} {D : DataW Value} (h : SH w p b F S D) {x : List UInt8} (hx : x ∉ S.map Nt.name) : D.atKey (.string x) (.held zeroNote) = .held zeroNote ∧ Maps.has D (.string x) = false :=
  ⟨atKey_of_not_has (h.out x hx) _, h.out x hx⟩

set_option maxRecDepth 100000 in
set_option maxHeartbeats 400000 in
theorem new_any (w : World) : Calls Try.prog 5 #[] w fun e w' => ∃ p b, e = .returned (.pointer (some ⟨p, 0, none⟩)) ∧ SH w' p b (fun k => w.heap.size ≤ k) [] (.map []) ∧ w.heap.size ≤ p ∧ w.heap.size ≤ b ∧ Below w.heap.size w w' := by
  have hmm := @run_makeMap Try.prog
  go_enter Try.func5, Try.ntmps5
  go_wp2
  go_ret
  refine ⟨w.heap.size + 1, w.heap.size, rfl, ?_, by omega, by omega, ((Below.refl _ _).alloc (Nat.le_refl _) _).alloc (by simp) _⟩
  refine ⟨by simp, (World.ownsMap_made _ _ _ _).alloc _, rfl, by simp, fun x _ => rfl, by simp, by simp, by simp, by simp⟩
end Go.Proofs.Ytnjjpahpaeblfab
