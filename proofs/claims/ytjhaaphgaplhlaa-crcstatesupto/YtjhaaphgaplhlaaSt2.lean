/- What stepOf and Begin of the program answer. -/
import Derived.Test.YtjhaaphgaplhlaaSt1
namespace Go.Proofs.Ytjhaaphgaplhlaa
open Go.RowKit
set_option linter.unusedVariables false

/-- What a step captured lies there. -/
structure StepAt (w : World) (m : Md) (gm gx gt : Nat) : Prop where
  md : MdAt w gm m
  lm : gm < w.heap.size
  lx : gx < w.heap.size
  cx : w.cell? ⟨gx, 0, none⟩ = some (.int .u64 ((2 ^ m.w - 1 : Nat) : Int))
  tab : w.heap[gt]? = some (.cells (fillC .u64 (tabS m) 256) (83 : TypeId) (0, 0))
theorem StepAt.below {w w' : World} {m : Md} {gm gx gt n : Nat} (h : StepAt w m gm gx gt) (hb : Below n w w') (h1 : gm < n) (h2 : gx < n) (h3 : gt < n) : StepAt w' m gm gx gt :=
  ⟨h.md.below hb h1, Nat.lt_of_lt_of_le h.lm hb.size, Nat.lt_of_lt_of_le h.lx hb.size, by rw [hb.cell (p := ⟨gx, 0, none⟩) h2]; exact h.cx, by rw [hb.block _ h3]; exact h.tab⟩
theorem StepAt.next {w w' : World} {m : Md} {gm gx gt : Nat} (h : StepAt w m gm gx gt) (hb : Below w.heap.size w w') : StepAt w' m gm gx gt := h.below hb h.lm h.lx (row_lt h.tab)
theorem step_any' (m : Md) (hm : MdOk m) (r c : Nat) (hr : r < 2 ^ m.w) (hc : c < 256) (gm gx gt : Nat) (w : World) (h : StepAt w m gm gx gt) :
    Calls Try.prog 63 #[.int .u64 r, .int .u8 c, .pointer (some ⟨gm, 0, none⟩), .pointer (some ⟨gx, 0, none⟩), .pointer (some ⟨gt, 0, none⟩)] w fun e w' => e = .returned (.int .u64 (runB m.w m.P r (bitsOf m.inn c) : Nat)) ∧ Below w.heap.size w w' :=
  step63_any m hm r c hr hc gm gx gt w h.md h.lx h.cx h.tab

set_option maxRecDepth 100000 in
set_option maxHeartbeats 400000 in
theorem stepOf_any (m : Md) (hm : MdOk m) (w : World) : Calls Try.prog 57 #[m.v] w fun e w' => ∃ gm gx gt, e = .returned (.func (.func 63) #[] #[.pointer (some ⟨gm, 0, none⟩), .pointer (some ⟨gx, 0, none⟩), .pointer (some ⟨gt, 0, none⟩)]) ∧ w.heap.size ≤ gm ∧ w.heap.size ≤ gx ∧ w.heap.size ≤ gt ∧ StepAt w' m gm gx gt ∧ Below w.heap.size w w' := by
  have hmf : ∀ (fn : Fn) (first cap : Array Value) (w : World), (Instr.makeFunc fn first cap).run Try.prog w = .ok (.func fn first cap) w := fun _ _ _ _ => rfl
  have HT := hidD (fun w => tableOf_any m hm w)
  have HG := hidD (fun w => greatest_any m.w hm.hi w)
  obtain ⟨hz, hsz⟩ := zero_of_info Try.zero83
  rw [fill_none .u64 t32 (tabS m)] at hz
  have h0 : (fillC .u64 (tabS m) 0).size = 256 := fill_size _ _ _ (by omega)
  have h256 : (fillC .u64 (tabS m) 256).size = 256 := fill_size _ _ _ (by omega)
  have HONE := hidD (fill_one .u64 (tabS m) 256)
  have HA := hidD (MdAt.new m w 35)
  have HB0 : Hid (Below w.heap.size w (w.alloc (.cells m.cells 35))) := (Below.refl w.heap.size w).alloc (Nat.le_refl _) _
  have HSZ : Hid (w.heap.size < (w.alloc (.cells m.cells 35)).heap.size) := by show _ < _; simp
  have HMK : Hid (∀ (w' : World) (gm gx gt : Nat), MdAt w' gm m → gm < w'.heap.size → gx < w'.heap.size → w'.cell? ⟨gx, 0, none⟩ = some (.int .u64 ((2 ^ m.w - 1 : Nat) : Int)) → w'.heap[gt]? = some (.cells (fillC .u64 (tabS m) 256) (83 : TypeId) (0, 0)) → StepAt w' m gm gx gt) := fun w' gm gx gt a b c d e => ⟨a, b, c, d, e⟩
  clear hm
  generalize fillC .u64 (tabS m) 256 = C at *
  generalize fillC .u64 (tabS m) 0 = C0 at *
  generalize 2 ^ m.w - 1 = G at *
  have hi : (Try.prog.info? 83).map (·.size) = some C.size := by rw [hsz, h256]
  obtain ⟨nm, ww, P, I, inn, out, X⟩ := m
  simp only [Md.v, Md.cells] at *
  go_enter Try.func57, Try.ntmps57
  go_wp2_with (first
    | (go_at_call 45; refine (HT.out _).mono ?_; rintro e w1 ⟨rfl, hb1⟩; have HX1 := hidD (HA.out.below hb1 HSZ.out); have HL1 := hidD (Nat.lt_of_lt_of_le HSZ.out hb1.size); have HB1 := hidD (Below.next HB0.out hb1); obtain ⟨k0, k1, k2, k3, k4, k5, k6⟩ := (HX1.out.below ((Below.refl w1.heap.size w1).alloc (Nat.le_refl _) (.cells C (83 : TypeId))) HL1.out); simp only at k1; clear hb1 k0 k2 k3 k4 k5 k6; have HO : Hid ((w1.alloc (.cells C0 (83 : TypeId))).heap[w1.heap.size]? = some (.cells C0 (83 : TypeId) (0, 0))) := heap_alloc_last _ _)
    | (refine wpList_store_row rfl 83 _ _ rfl w1.heap.size C rfl rfl 83 C0 HO.out hi (by rw [h0, h256]) HONE.out ?_; rw [World.setRow_alloc_new])
    | (go_at_call 51; refine (HG.out _).mono ?_; rintro e w2 ⟨rfl, hb2⟩; have HB2 := hidD hb2; clear hb2))
  go_ret
  have hs2 := HB2.out.size
  have h12 : w1.heap.size < w2.heap.size := by simp at hs2; omega
  have b2 : Below (w1.alloc (.cells C (83 : TypeId))).heap.size (w1.alloc (.cells C (83 : TypeId))) (w2.alloc (.cells #[.int .u64 (G : Int)] 33)) := Below.more HB2.out _
  refine ⟨w.heap.size, w2.heap.size, w1.heap.size, rfl, Nat.le_refl _, Nat.le_trans HB1.out.size (Nat.le_of_lt h12), HB1.out.size, HMK.out _ _ _ _ ?_ ?_ ?_ ?_ ?_, Below.next (Below.more HB1.out _) b2⟩
  · exact (HX1.out.below ((Below.refl w1.heap.size w1).alloc (Nat.le_refl _) (.cells C (83 : TypeId))) HL1.out).below b2 (Nat.lt_of_lt_of_le HL1.out (by simp))
  · simp; exact Nat.lt_succ_of_lt (Nat.lt_trans HL1.out h12)
  · simp
  · rw [World.cell?_alloc_new]; rfl
  · rw [b2.block _ (by simp)]; exact heap_alloc_last _ _
end Go.Proofs.Ytjhaaphgaplhlaa
