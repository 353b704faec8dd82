/- What Sum32 of the program answers. -/
import Derived.Test.YtjhaaphgaplhlaaMtc
namespace Go.Proofs.Ytjhaaphgaplhlaa
open Go.RowKit
set_option linter.unusedVariables false

/-- The register of CRC-32 turned round, k bytes being in. -/
def reg32 (bs : List UInt8) (k : Nat) : Nat := rev (runB 32 79764919 4294967295 (streamOf true (bs.take k))) 32
theorem reg32_lt (bs : List UInt8) (k : Nat) : reg32 bs k < 4294967296 := rev_lt _ 32
theorem reg32_zero (bs : List UInt8) : reg32 bs 0 = 4294967295 := s32_first
theorem reg32_next (bs : List UInt8) (k : Nat) (h : k < bs.length) : reg32 bs (k + 1) = reg32 bs k / 256 ^^^ t32 ((reg32 bs k % 256) ^^^ (bs.getD k 0).toNat) := by
  unfold reg32
  rw [reg_take _ _ _ _ bs k h]
  exact s32_step (run_lt (by decide) _ _ (by decide)) (bs.getD k 0).toNat_lt
theorem reg32_end (bs : List UInt8) : reg32 bs bs.length ^^^ 4294967295 = sumS m32 bs := by
  unfold reg32 sumS toldS regS
  obtain ⟨h1, h2, h3, h4, h5, h6⟩ := m32_is
  rw [h1, h2, h3, h4, h5, h6, List.take_length]
  rfl

set_option maxRecDepth 100000 in
set_option maxHeartbeats 400000 in
theorem sum32_any (bs : List UInt8) (hl : bs.length ≤ 9223372036854775807) (sl : Value) (w : World) (hs : ByAt w sl bs) : Calls Try.prog 20 #[sl] w fun e w' => e = .returned (.int .u32 (sumS m32 bs : Nat)) ∧ Below w.heap.size w w' := by
  obtain ⟨a, cap, rfl, hsh⟩ := hs.shape
  have HSH := hidD hsh
  have HT := hidD table32_any
  obtain ⟨hz, hsz⟩ := zero_of_info Try.zero81
  have h0 : (fillC .u32 t32 0).size = 256 := fill_size _ _ _ (by omega)
  have h256 : (fillC .u32 t32 256).size = 256 := fill_size _ _ _ (by omega)
  have HONE := hidD (fill_one .u32 t32 256)
  have HAT := hidD (fill_at .u32 t32)
  have HE := hidD (reg32_end bs)
  generalize sumS m32 bs = S at *
  generalize fillC .u32 t32 256 = C at *
  generalize fillC .u32 t32 0 = C0 at *
  have hi : (Try.prog.info? 81).map (·.size) = some C.size := by rw [hsz, h256]
  clear hs hsh
  go_enter Try.func20, Try.ntmps20
  go_wp2_with (first | (go_at_call 44; refine (HT.out _).mono ?_; rintro e w1 ⟨rfl, hb1⟩; have HO : Hid ((w1.alloc (.cells C0 (81 : TypeId))).heap[w1.heap.size]? = some (.cells C0 (81 : TypeId) (0, 0))) := heap_alloc_last _ _) | (refine wpList_store_row rfl 81 _ _ rfl w1.heap.size C rfl rfl 81 C0 HO.out hi (by rw [h0, h256]) HONE.out ?_; rw [World.setRow_alloc_new]))
  have HB2 : Hid (Below w.heap.size w (w1.alloc (.cells C (81 : TypeId)))) := hb1.alloc hb1.size _
  have HL : Hid (∀ i, i < 256 → (w1.alloc (.cells C (81 : TypeId))).cell? ⟨w1.heap.size, i, none⟩ = some (.int .u32 (t32 i : Int))) := fun i h => by rw [World.cell?_alloc_new]; exact HAT.out i h
  clear hb1
  generalize w1.alloc (.cells C (81 : TypeId)) = w2 at *
  go_loopw [4, 10] (fun r i wr => ∃ k : Nat, k ≤ bs.length ∧ i = .int .i64 k ∧ r = .int .u32 ((reg32 bs k : Nat) : Int) ∧ wr = w2) (fun _ i _ => bs.length - (intOf i).toNat)
  case atStart => exact ⟨0, Nat.zero_le _, rfl, by rw [reg32_zero]; rfl, rfl⟩
  case round =>
    obtain ⟨k, hk, rfl, rfl, rfl⟩ := hrel
    by_cases hlt : k < bs.length
    · obtain ⟨g, off, rfl, hg, hc⟩ := HSH.out k hlt
      have hcw : wr.cell? ⟨g, off + k, none⟩ = some (.int .u8 ((bs.getD k 0).toNat : Int)) := by rw [HB2.out.cell (p := ⟨g, off + k, none⟩) hg]; exact hc
      have hlti : (k : Int) < bs.length := by omega
      have HN := hidD (reg32_next bs k hlt)
      have hbk := (bs.getD k 0).toNat_lt
      have hA := reg32_lt bs k
      generalize hR : reg32 bs k = A at *
      have hx : bits .xor .u8 ((A : Int) % 256) ((bs.getD k 0).toNat : Int) = (((A % 256) ^^^ (bs.getD k 0).toNat : Nat) : Int) := u8_xor_nat (A % 256) _ (by omega) hbk
      have hj : (A % 256) ^^^ (bs.getD k 0).toNat < 256 := xor_lt (w := 8) (Nat.mod_lt _ (by decide)) hbk
      have hcl := HL.out _ hj
      have hy : bits .xor .u32 ((A : Int) / 256) (t32 ((A % 256) ^^^ (bs.getD k 0).toNat) : Int) = ((A / 256 ^^^ t32 ((A % 256) ^^^ (bs.getD k 0).toNat) : Nat) : Int) := u32_xor_nat (A / 256) _ (by omega) (t32_lt hj)
      have hji : (((A % 256) ^^^ (bs.getD k 0).toNat : Nat) : Int) < 256 := by omega
      clear hc hR hk
      generalize t32 ((A % 256) ^^^ (bs.getD k 0).toNat) = T at *
      generalize (A % 256) ^^^ (bs.getD k 0).toNat = J at *
      generalize (bs.getD k 0).toNat = bk at *
      generalize hN2 : A / 256 ^^^ T = N at *
      clear hN2
      go_wp2_with fail
      go_roundw
      case rel => exact ⟨k + 1, by omega, by go_num, by rw [HN.out], trivial⟩
      case measure => simp [intOf]; omega
    · obtain rfl : k = bs.length := by omega
      have hA := reg32_lt bs bs.length
      have hx : bits .xor .u32 ((reg32 bs bs.length : Nat) : Int) 4294967295 = ((S : Nat) : Int) := by
        rw [← HE.out]; exact u32_xor_nat _ 4294967295 hA (by omega)
      generalize reg32 bs bs.length = A at *
      generalize bs.length = n at *
      go_wp2_with fail
      go_ret
      exact ⟨rfl, HB2.out⟩
end Go.Proofs.Ytjhaaphgaplhlaa
