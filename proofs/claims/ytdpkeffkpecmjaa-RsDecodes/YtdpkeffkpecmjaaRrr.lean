/- What Decode answers of a word that is mended. -/
import Derived.Test.YtdpkeffkpecmjaaRsr
namespace Go.Proofs.Ytdpkeffkpecmjaa
open Go.RowKit
set_option linter.unusedVariables false

theorem sliceAt_h (a : Option Addr) (len cap C : Nat) (hC : C ≤ cap) (w : World) : (Instr.sliceAt 22 (.slice a len cap) none (some (.int .i64 (C : Int))) none).run Try.prog w = .ok (.slice (if cap = 0 then a else a.map (·.add 0)) C cap) w := by
  have hu : Try.prog.underlying 22 = some (.slice (Try.prog.elem 22)) := by kernel_rfl
  have he : Try.prog.elem 22 = 5 := by kernel_rfl
  obtain ⟨i0, hin, _, hz1, _⟩ := info_parts Try.info5
  rw [run_sliceAt_slice w 22 _ _ _ _ hu, run_slice_h w 22 a len cap hu .i64 (C : Int) (by omega) (by omega), he, run_sizeOf w hin, Result.andThen_ok]
  simp only [sliced, Int.toNat_natCast, Nat.zero_mul, Nat.sub_zero]
set_option maxRecDepth 100000 in
set_option maxHeartbeats 3200000 in
theorem decode_ok {c p f : Nat} (hp1 : 1 ≤ p) (hp : p ≤ 254) (hf : f ≤ 254) (word : List UInt8) (L : List Int) (h : Fine f p word L) (vw vl : Value) (w : World) (hc : CdAt w c p f) (hvw : SlAt w vw word) (hvl : IlAt w vl L) :
    Calls Try.prog 21 #[.pointer (some ⟨c, 0, none⟩), vw, vl] w fun e w' => ∃ g u, e = .returned (.tuple #[.slice (some ⟨g, 0, none⟩) (word.length - p) (word.length - p), u, .int .i64 0]) ∧ RowAt w' g ((dWord f p word L).take (word.length - p)) ∧ IlAt w' u (difTo (dWord f p word L) word word.length) ∧ Below w.heap.size w w' := by
  have HS := hidD (mend_fine hp1 hp hf word L h vw vl w hc hvw hvl)
  have hl1 := h.l1
  have hl2 := h.l2
  have HDW : Hid ((dWord f p word L).length = word.length) := amTo_length _ _ _ _ _ _ _
  have HDL := hidD (dif_len (dWord f p word L) word)
  have HCD := hidD hc
  have h0 := hc.c0
  have HCL := hidD hc.lt
  obtain ⟨⟨aw, cw, rfl, hcw1, hcw2⟩, hby⟩ := hvw
  rcases hby with ⟨h0', _⟩ | ⟨gw, ow, cap, hv, hgw, hcell⟩
  · rw [h0'] at hl1; simp at hl1
  injection hv with hv1 hv2 hv3
  subst hv1 hv3
  have HGW := hidD hgw
  have HCE := hidD hcell
  have HDI : Hid (∀ k, difTo (dWord f p word L) word (k + 1) = if cf (dWord f p word L) k = cf word k then difTo (dWord f p word L) word k else difTo (dWord f p word L) word k ++ [(k : Int)]) := fun k => by rw [difTo]
  have HAL : Hid (∀ (w' : World) o, Below w'.heap.size w' (w'.alloc o)) := fun w' o => (Below.refl _ _).alloc (Nat.le_refl _) o
  have HDZ : Hid (difTo (dWord f p word L) word 0 = []) := rfl
  have HCP : Hid (∀ w' g, RowAt w' g (dWord f p word L) → Calls Try.prog 44 #[.slice (some ⟨g, 0, none⟩) (word.length - p) word.length] w' fun e w2 => e = .returned (.slice (some ⟨w'.heap.size, 0, none⟩) (word.length - p) (word.length - p)) ∧ RowAt w2 w'.heap.size ((dWord f p word L).take (word.length - p)) ∧ Below w'.heap.size w' w2) := fun w' g hr => by
    have hln : ((dWord f p word L).take (word.length - p)).length = word.length - p := by rw [List.length_take, HDW.out]; omega
    have hby := hr.by 0 (word.length - p) word.length (by rw [HDW.out]; omega)
    rw [List.drop_zero] at hby
    have := copyOf_any ((dWord f p word L).take (word.length - p)) (by rw [hln]; omega) (.slice (some ⟨g, 0, none⟩) (word.length - p) word.length) w' ⟨⟨_, _, by rw [hln], by rw [hln]; omega, by omega⟩, hby⟩
    rw [hln] at this
    exact this
  clear hc hvl h hcell hgw
  generalize dWord f p word L = D at *
  generalize hnn : word.length = n at *
  have HM := hidD hl1
  have H0 := hidD h0
  clear hnn h0 hl1 hcw1
  go_enter Try.func21, Try.ntmps21
  go_wp2_with (go_at_call 47; refine HS.out.mono ?_; rintro e w2 ⟨g, v, rfl, hg, hr, hv, hb2⟩; have HB2 := hidD hb2; have HR2 := hidD hr; clear hb2 hv hr hg)
  go_loopw [12, 13, 27] (fun o _ i wr => ∃ k : Nat, k ≤ n ∧ i = .int .i64 k ∧ wr.ownsRow w2.heap.size 3 1 o (difTo D word k).length ((difTo D word k).map encI) ∧ Below w2.heap.size w2 wr) (fun _ _ i _ => n - (intOf i).toNat)
  case atStart => exact ⟨0, Nat.zero_le _, rfl, by rw [HDZ.out]; exact World.ownsRow_nil _ _ _ _, Below.refl _ _⟩
  case round =>
    obtain ⟨k, hk, rfl, hown, hbel⟩ := hrel
    have HBW := hidD hbel
    have HOW := hidD hown
    clear hown hbel
    by_cases hlt : k < n
    · have hlti : (k : Int) < n := by omega
      have HL := hidD (HDL.out k)
      have f1 : wr.cell? ⟨g, k, none⟩ = some (.int .u8 ((cf D k).toNat : Int)) := (HR2.out.next HBW.out).cell (by rw [HDW.out]; exact hlt)
      have f2 : wr.cell? ⟨gw, ow + k, none⟩ = some (.int .u8 ((cf word k).toNat : Int)) := by
        rw [(Below.next HB2.out HBW.out).cell (p := ⟨gw, ow + k, none⟩) HGW.out]
        exact HCE.out k hlt
      by_cases he : cf D k = cf word k
      · have HN : Hid (difTo D word (k + 1) = difTo D word k) := by have := HDI.out k; rw [if_pos he] at this; exact this
        rw [he] at f1
        have hbb : (((cf word k).toNat : Int) == ((cf word k).toNat : Int)) = true := beq_self_eq_true _
        generalize ((cf word k).toNat : Int) = x at *
        clear he
        go_wp2_with fail
        go_quiet (fail)
        go_wp2_with fail
        go_roundw
        case rel => exact ⟨k + 1, by omega, by go_num, by rw [HN.out]; exact row_below HOW.out (below_drewN (Below.refl _ _) _), below_drewN HBW.out _⟩
        case measure => simp [intOf]; omega
      · have HN : Hid (difTo D word (k + 1) = difTo D word k ++ [(k : Int)]) := by have := HDI.out k; rw [if_neg he] at this; exact this
        have hne : ((cf D k).toNat : Int) ≠ ((cf word k).toNat : Int) := fun hx => he (UInt8.toNat.inj (by omega))
        have hbb : (((cf D k).toNat : Int) == ((cf word k).toNat : Int)) = false := beq_eq_false_iff_ne.2 hne
        generalize ((cf word k).toNat : Int) = x at *
        generalize ((cf D k).toNat : Int) = y at *
        generalize difTo D word k = PL at *
        clear he
        go_wp2_with fail
        go_quiet (fail)
        have HBN := hidD (below_drewN HBW.out nq)
        have HON := hidD (row_below HOW.out (below_drewN (Below.refl _ _) nq))
        generalize wr.drewN nq = wn at *
        go_wp2_with (at_builtin; refine wpList_append_int rfl _ _ rfl w2.heap.size u12 PL.length (PL.map encI) rfl (HON.out.alloc _) wn.heap.size (k : Int) rfl (new_cell1 wn (.int .i64 (k : Int)) 3 0 _ rfl) (by have := HL.out; omega) (by have := HBN.out.size; simp; omega) ?_; intro v8 w8 hown8 hg8; have HO8 := hidD hown8; have HB8 := hidD (row_grown (HON.out.alloc _) (Below.next HBN.out (HAL.out _ _)) hg8 (by have := HBN.out.size; simp; omega)); clear hown8 hg8)
        go_roundw
        case rel => exact ⟨k + 1, by omega, by go_num, by rw [HN.out, List.length_append, List.map_append]; exact HO8.out, HB8.out⟩
        case measure => simp [intOf]; omega
    · obtain rfl : k = n := by omega
      have HR3 := hidD (HR2.out.next HBW.out)
      have f0 : wr.cell? ⟨c, 0, none⟩ = some (.int .i64 p) := ((Below.next HB2.out HBW.out).cell (p := ⟨c, 0, none⟩) HCL.out).trans H0.out
      have hm := HM.out
      have hs1 : ∀ w, (Instr.sliceAt 22 (.slice (some ⟨g, 0, none⟩) k k) none (some (.int .i64 ((k : Int) - (p : Int)))) none).run Try.prog w = .ok (.slice (some ⟨g, 0, none⟩) (k - p) k) w := fun w => by
        rw [show (k : Int) - (p : Int) = ((k - p : Nat) : Int) by omega, sliceAt_h _ _ _ _ (Nat.sub_le _ _), if_neg (by omega)]
        rfl
      clear hm
      obtain ⟨a6, c6, hu6⟩ := row_shape HOW.out
      subst hu6
      generalize hPP : difTo D word k = PL at *
      have HPP := hidD hPP
      clear hPP
      go_wp2_with (go_at_call 44; refine (HCP.out _ _ HR3.out).mono ?_; rintro e w5 ⟨rfl, hr5, hb5⟩; have HB5 := hidD hb5; have HR5 := hidD hr5; clear hr5 hb5)
      refine bodyPost_ret (v := .tuple #[.slice (some ⟨wr.heap.size, 0, none⟩) (k - p) (k - p), .slice a6 PL.length c6, .int .i64 0]) (by simp [results, Try.results21, go_sem]) rfl ?_
      exact ⟨_, _, rfl, HR5.out, (il_of_own (by rw [HPP.out]; exact HOW.out)).next HB5.out, Below.next HB2.out (Below.next HBW.out HB5.out)⟩
end Go.Proofs.Ytdpkeffkpecmjaa
