/- How slices of bytes among the arguments read where the bulk is bounded. -/
import Derived.Test.YtdpkeffkpecmjaaUpt
import Derived.Test.YtdpkeffkpecmjaaRwf
import Derived.Deep.Slices
namespace Go.Proofs.Ytdpkeffkpecmjaa
open Go.ChangeShapes Go.WideShapes Go.ChangeAt Go.RowKit Go.Deep
set_option linter.unusedVariables false

theorem Try.cells22 : Try.prog.cellsOf 22 = 1 := by kernel_rfl
theorem bulk_one {H : Type} (d : DataW H) : 1 ≤ Rows.uptoBulk d := by
  cases d with
  | lit l => cases l <;> simp [Rows.uptoBulk]
  | nil => simp [Rows.uptoBulk]
  | ptr d => simp [Rows.uptoBulk]
  | slice elems spare => simp [Rows.uptoBulk]
  | agg parts => simp [Rows.uptoBulk]
  | iface t d => simp [Rows.uptoBulk]
  | map entries => simp [Rows.uptoBulk]
  | held h => simp [Rows.uptoBulk]
theorem bulk_part {H : Type} {d : DataW H} {l : List (DataW H)} (h : d ∈ l) : Rows.uptoBulk d ≤ Rows.uptoBulkAll l := by
  induction l with
  | nil => cases h
  | cons x r ih =>
    simp only [Rows.uptoBulkAll]
    rcases List.mem_cons.1 h with e | e
    · subst e; omega
    · have := ih e; omega
theorem bulk_len {H : Type} (l : List (DataW H)) : l.length ≤ Rows.uptoBulkAll l := by
  induction l with
  | nil => simp [Rows.uptoBulkAll]
  | cons x r ih => have := bulk_one x; simp only [Rows.uptoBulkAll, List.length_cons]; omega
theorem bulk_elems {H : Type} (e s : List (DataW H)) : Rows.uptoBulkAll e ≤ Rows.uptoBulk (.slice e s) := by simp only [Rows.uptoBulk]; omega

theorem open_bytesV {H : Type} {enc : TypeId × Value → H} {W : World} {base : Nat} {held : Bool} {m : Nat} {v : Value} {y : DataW H × List MemPlace}
    (h : DataW.trod enc Try.prog W base (fun _ => true) held m 22 [v] = some y) :
    ∃ bs : List UInt8, ByAt W v bs ∧ bs.length ≤ Rows.uptoBulk y.1 := by
  rcases open_ints Try.underlying22 Try.underlying5 Try.cells5 h with ⟨hcs, hx⟩ | ⟨a, len, cap, zs, hcs, _, hl, hm, hz, hx, hcell, hws⟩
  · simp only [List.cons.injEq, and_true] at hcs
    subst hcs
    exact ⟨[], .inl ⟨rfl, none, 0, rfl, fun _ => rfl⟩, by simp⟩
  · simp only [List.cons.injEq, and_true] at hcs
    simp only [if_true] at hz
    subst hcs
    have hd : y.1 = .slice (lits .u8 (zs.take len)) (lits .u8 (zs.drop len)) := congrArg Prod.fst hx
    have hlen : ((zs.take len).map fun z : Int => UInt8.ofNat z.toNat).length = len := by simp; omega
    refine ⟨(zs.take len).map fun z : Int => UInt8.ofNat z.toNat, ?_, ?_⟩
    · by_cases h0 : len = 0
      · subst h0
        exact .inl ⟨by simp, some a, cap, by simp, nofun⟩
      · have h00 := hcell 0 (by omega)
        obtain ⟨g, off, spot⟩ := a
        have hspot : spot = none := by simpa [Addr.add] using World.cell?_spot h00
        subst hspot
        refine .inr ⟨g, off, cap, by rw [hlen], ?_, fun j hj => ?_⟩
        · have h1 := World.block_lt_of_cell? W _ h00
          simpa [Addr.add] using h1
        · rw [hlen] at hj
          have := hcell j (by omega)
          rw [show (⟨g, off, none⟩ : Addr).add j = ⟨g, off + j, none⟩ from Addr.add_lit ..] at this
          rw [this]
          have hj' : j < zs.length := by omega
          have hb := bounds_u8 (hws zs[j] (List.getElem_mem hj'))
          have e1 : zs.getD j 0 = zs[j] := by simp [List.getD, hj']
          have e2 : ((zs.take len).map fun z : Int => UInt8.ofNat z.toNat).getD j 0 = UInt8.ofNat zs[j].toNat := by simp [List.getD, hj, hj']
          rw [e1, e2]
          unfold encB
          rw [UInt8.toNat_ofNat', Nat.mod_eq_of_lt (by omega), Int.toNat_of_nonneg hb.1]
    · rw [hlen, hd]
      show len ≤ Rows.uptoBulkAll (H := H) (lits .u8 (zs.take len)) + Rows.uptoBulkAll (H := H) (lits .u8 (zs.drop len)) + 1
      rw [bulk_lits, bulk_lits]
      simp; omega

set_option maxRecDepth 100000 in
theorem open_piecesU {H : Type} {enc : TypeId × Value → H} {W : World} {r : Reach} {b0 base : Nat} {held : Bool} {v : Value} {d : DataW H} {p : List MemPlace}
    (hv : Value.okWide Try.prog W r b0 47 v) (h : DataW.Trod enc Try.prog W base (fun _ => true) held 47 v d p) :
    ∃ L : List (List UInt8), PcAt W v L ∧ L.length ≤ Rows.uptoBulk d ∧ ∀ k, k < L.length → (L.getD k []).length ≤ Rows.uptoBulk d := by
  obtain ⟨a', l', c', rfl⟩ := okWide_slice Try.underlying47 hv
  obtain ⟨m, h3⟩ := h
  rcases open_slice1 Try.underlying47 Try.cells22 h3 with ⟨hcs, hx⟩ | ⟨a, len, cap, m', n, V, D, Pl, hcs, hb, hl, hm, hmm, hx, hel⟩
  · simp only [Value.cells, List.cons.injEq, and_true] at hcs
    rw [hcs]
    exact ⟨[], ⟨none, 0, rfl, fun k hk => by simp at hk⟩, by simp, fun k hk => by simp at hk⟩
  · simp only [Value.cells, List.cons.injEq, and_true] at hcs
    rw [hcs]
    simp only [if_true] at hmm
    have hmm' := hmm.symm
    subst hmm'
    have each : ∀ i, i < cap → ∃ bs : List UInt8, ByAt W (V i) bs ∧ bs.length ≤ Rows.uptoBulk (D i) := fun i hi => open_bytesV (hel i hi).2
    obtain ⟨f, hf⟩ := choose_lt each
    have hd : d = .slice ((List.range len).map D) ((List.range (cap - len)).map fun j => D (len + j)) := congrArg Prod.fst hx
    subst hd
    have hlen : ((List.range len).map f).length = len := by simp
    have hat : ∀ i, i < len → ((List.range len).map f).getD i [] = f i := fun i hi => by
      rw [List.getD, List.getElem?_map, List.getElem?_range hi]; rfl
    refine ⟨(List.range len).map f, ⟨some a, cap, by rw [hlen], fun k hk => ?_⟩, ?_, fun k hk => ?_⟩
    · rw [hlen] at hk
      have h00 := (hel k (by omega)).1
      have h01 := (hel 0 (by omega)).1
      obtain ⟨g, off, spot⟩ := a
      have hspot : spot = none := by simpa [Addr.add] using World.cell?_spot h01
      subst hspot
      have hbl := World.block_lt_of_cell? W _ h00
      rw [show (⟨g, off, none⟩ : Addr).add k = ⟨g, off + k, none⟩ from Addr.add_lit ..] at h00 hbl
      exact ⟨g, off, V k, rfl, hbl, h00, by rw [hat k hk]; exact (hf k (by omega)).1⟩
    · rw [hlen]
      have h1 := bulk_elems ((List.range len).map D) ((List.range (cap - len)).map fun j => D (len + j))
      have h2 := bulk_len ((List.range len).map D)
      rw [List.length_map, List.length_range] at h2
      omega
    · rw [hlen] at hk
      rw [hat k hk]
      exact Nat.le_trans (hf k (by omega)).2 (Nat.le_trans (bulk_part (List.mem_map.2 ⟨k, List.mem_range.2 hk, rfl⟩)) (bulk_elems _ _))
end Go.Proofs.Ytdpkeffkpecmjaa
