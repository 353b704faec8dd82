/- What Read answers of the chapter's text that does not end. -/
import Derived.Test.YtpemajghaceegaaGreatDoorHxx
import Derived.Shelf.Strings.SlTrimAscii
namespace Go.Proofs.YtpemajghaceegaaGreatDoor
open Go.RowKit
set_option linter.unusedVariables false

theorem Tryz.zeroFile : (Tryz.prog.info? 49).map (fun i => (i.zero, i.size)) = some (some (.agg #[.int .i64 0, .slice none 0 0, .int .i64 0]), 3) := by kernel_rfl
theorem Tryz.underFile : Tryz.prog.underlying 49 = some (.struct (Tryz.prog.fieldsOf 49)) := by kernel_rfl
theorem Tryz.sizeFile : (Tryz.prog.info? 49).map (·.size) = some 3 := by kernel_rfl
theorem Tryz.zeroRd : (Tryz.prog.info? 106).map (fun i => (i.zero, i.size)) = some (some (.agg #[.int .i64 0, .int .i64 0, .int .i64 0, .int .i64 0, .bool false, .slice none 0 0, .slice none 0 0]), 7) := by kernel_rfl
theorem Tryz.underBs : Tryz.prog.underlying 104 = some (.slice 4) := by kernel_rfl
theorem Tryz.infoBs : (Tryz.prog.info? 4).map (fun i => (i.zero, i.size, i.bytes)) = some (some (.bool false), 1, 1) := by kernel_rfl
theorem Tryz.setInfo : (Tryz.prog.info? 128).map (fun i => (i.zero, i.size)) = some (some (.agg (Array.replicate 256 (.bool false))), 256) := by kernel_rfl
theorem res_cell_tmp_tmp {fn : Func} {p q s : Tmp} (h : fn.results = #[.cell p 49, .tmp q, .tmp s]) (tmps : Array Value) (w : World) (g : Nat) (a b c : Value) (fr : Nat × Nat)
    (hp : tmps.getD p undef = .pointer (some ⟨g, 0, none⟩)) (hg : w.heap[g]? = some (.cells #[a, b, c] 49 fr)) :
    (results fn tmps).run Tryz.prog w = .ok (.tuple #[.agg #[a, b, c], tmps.getD q undef, tmps.getD s undef]) w := by
  have hp' : tmps[p]?.getD undef = .pointer (some ⟨g, 0, none⟩) := by simpa using hp
  simp [results, h, hp', asAddr, run_loadVar_row w g _ _ _ _ _ hg Tryz.underFile rfl Tryz.sizeFile]
theorem make_all : ∃ Z : Array Value, Z[0]? = some (.bool false) ∧ ∀ w : World, (Instr.makeSlice 104 (.int .i64 65536) (.int .i64 65536)).run Tryz.prog w = .ok (.slice (some ⟨w.heap.size, 0, none⟩) 65536 65536) (w.alloc (.cells Z 4)) := by
  obtain ⟨i0, hi, hz0, hz1, hz2⟩ := info_parts Tryz.infoBs
  refine ⟨madeCells (Value.bool false).cells (65536 * i0.size), ?_, fun w => run_make (P := Tryz.prog) w 104 4 i0 _ Tryz.underBs hi hz0 .i64 .i64 65536 65536 (by omega) (by omega) (by rw [hz2]; omega) (by omega)⟩
  rw [hz1]
  simp only [madeCells, Value.cells, Array.getElem?_map, Array.getElem?_range]
  rfl
/- the text -/
def txA : List UInt8 := [58, 48, 49, 48, 48, 48, 48, 48, 48, 48, 48, 70, 70]
theorem txA_line : lineS txA = .ok (1, 0, 0, [0]) := by kernel_rfl
theorem txA_trim : Lib.trimS txA [32, 9, 13] = txA := by decide +kernel
theorem txA_count : Lib.countB (bA txA) ⟨#[10]⟩ = 0 := by decide +kernel
theorem txA_split : Lib.splitB ⟨#[10]⟩ 0 0 (bA txA) = [bA txA] := by decide +kernel
theorem Tryz.trimA (w : World) : Calls Tryz.prog 52 #[.string (bA txA), .string ⟨#[32, 9, 13]⟩] w fun e w' => e = .returned (.string (bA txA)) ∧ Below w.heap.size w w' := by
  refine (Go.Proofs.Any.strings_Trim_laid Go.Proofs.Tryz.lays160 Tryz.setInfo (bA txA) ⟨#[32, 9, 13]⟩ w (by decide) (by decide) (Go.Proofs.ascii_of_all (by decide))).mono ?_
  rintro e w' ⟨rfl, hb⟩
  refine ⟨?_, hb⟩
  rw [show (bA txA).data.toList = txA from rfl, show (⟨#[32, 9, 13]⟩ : ByteArray).data.toList = [32, 9, 13] from rfl, txA_trim]
  rfl
theorem Tryz.splitA (m : Int) (w : World) (hm : w.cell? ⟨0, 0, none⟩ = some (.int .i64 m)) : Calls Tryz.prog 50 #[.string (bA txA), .string ⟨#[10]⟩] w fun e w' => e = .returned (.slice (some ⟨w.heap.size, 0, none⟩) 1 1) ∧ w' = w.alloc (.cells #[.string (bA txA)] 9) := by
  refine (Go.Proofs.Tryz.strings_Split (bA txA) ⟨#[10]⟩ m w (by decide) hm (by decide)).mono ?_
  rintro e w' ⟨rfl, rfl⟩
  rw [txA_count, txA_split]
  exact ⟨rfl, rfl⟩
end Go.Proofs.YtpemajghaceegaaGreatDoor
