/- What Right of the document's answer for layer 1 answers: the same as the program's. -/
import Derived.Test.YtnjjpahpaeblfabRefA
import Derived.Deep.QuietTactic
import Derived.BigQuiet
namespace Go.Proofs.Ytnjjpahpaeblfab
open Go.RowKit Go.Maps Go.Sort
set_option linter.unusedVariables false

theorem StrsAt.take {w : World} {g off cap k : Nat} {ss : List (List UInt8)} (hg : g < w.heap.size) (hc : ∀ j, j < ss.length → w.cell? ⟨g, off + j, none⟩ = some (encStr (ss.getD j []))) (hk : k ≤ ss.length) : StrsAt w (.slice (some ⟨g, off, none⟩) k cap) (ss.take k) := by
  have hl : (ss.take k).length = k := by rw [List.length_take]; omega
  refine .inr ⟨g, off, cap, by rw [hl], hg, fun j hj => ?_⟩
  rw [hl] at hj
  rw [hc j (by omega)]
  simp [List.getD, hj]

set_option maxRecDepth 100000 in
set_option maxHeartbeats 2000000 in
theorem refRight_any (n : Nt) (hn : NtOk n) (a : Option Addr) (cap : Nat) (hcap : n.leans.length ≤ cap) (hcm : cap ≤ maxLen) (w : World) (hs : StrsAt w (.slice a n.leans.length cap) n.leans) :
    Calls Try.prog 12 #[.agg #[.string ⟨n.name.toArray⟩, .int .i64 n.words, .int .u32 n.sum, .slice a n.leans.length cap]] w fun e w' => e = .returned (.int .i64 (rightI n)) ∧ Below w.heap.size w w' := by
  obtain ⟨nm, wd, sm, ls⟩ := n
  obtain ⟨h1, h2, h3, h4, h5, h6⟩ := hn
  simp only at h1 h2 h3 h4 h5 h6 hs hcap ⊢
  have hl6 := h6.1
  have HL : Hid (∀ x ∈ ls, x.length ≤ maxLen) := h6.2
  unfold maxLen at hcm
  have HB : Hid (∀ o, Below w.heap.size w (w.alloc o)) := fun o => (Below.refl _ _).alloc (Nat.le_refl _) o
  have HS : Hid (StrsAt w (.slice a ls.length cap) ls) := hs
  clear hs h6
  have hN' := refName_any nm
  have HN : Hid (∀ b, nmB nm = b → ∀ w, Calls Try.prog 19 #[.string ⟨nm.toArray⟩] w fun e w' => e = .returned (.bool b) ∧ w' = w) := fun b hb w => hb ▸ refName_any nm w h1
  clear hN'
  cases hN : nmB nm with
  | false =>
    have HR : Hid (rightI ⟨nm, wd, sm, ls⟩ = 1) := by show rightI _ = 1; simp [rightI, hN]
    go_enter Try.func12, Try.ntmps12
    go_wp2_with (go_at_call 19; refine (HN.out false hN _).mono ?_; rintro e w' ⟨rfl, rfl⟩)
    go_ret
    exact ⟨ret_int HR.out.symm, HB.out _⟩
  | true =>
    by_cases hw0 : wd < 0
    · have HR : Hid (rightI ⟨nm, wd, sm, ls⟩ = 1) := by show rightI _ = 1; simp [rightI, hN, hw0]
      go_enter Try.func12, Try.ntmps12
      go_wp2_with (go_at_call 19; refine (HN.out true hN _).mono ?_; rintro e w' ⟨rfl, rfl⟩)
      go_ret
      exact ⟨ret_int HR.out.symm, HB.out _⟩
    by_cases hw1 : 4096 < wd
    · have HR : Hid (rightI ⟨nm, wd, sm, ls⟩ = 1) := by show rightI _ = 1; simp [rightI, hN, hw1]
      go_enter Try.func12, Try.ntmps12
      go_wp2_with (go_at_call 19; refine (HN.out true hN _).mono ?_; rintro e w' ⟨rfl, rfl⟩)
      go_ret
      exact ⟨ret_int HR.out.symm, HB.out _⟩
    have HRF : Hid (rlB nm ls = false → rightI ⟨nm, wd, sm, ls⟩ = 1) := fun h => by simp [rightI, h]
    have HRT : Hid (rlB nm ls = true → rightI ⟨nm, wd, sm, ls⟩ = if 8 < ls.length then 3 else 0) := fun h => by simp [rightI, h, hN, hw0, hw1]
    go_enter Try.func12, Try.ntmps12
    go_wp2_with (go_at_call 19; refine (HN.out true hN _).mono ?_; rintro e w' ⟨rfl, rfl⟩)
    have HB0 : Hid (Below w.heap.size w (w.alloc (.cells #[.string ⟨nm.toArray⟩, .int .i64 wd, .int .u32 sm, .slice a ls.length cap] 26))) := HB.out _
    obtain ⟨W0, hW0⟩ : ∃ W0, W0 = w.alloc (.cells #[.string ⟨nm.toArray⟩, .int .i64 wd, .int .u32 sm, .slice a ls.length cap] 26) := ⟨_, rfl⟩
    have HW0 : Hid (∀ wr, Below W0.heap.size W0 wr → Below w.heap.size w wr ∧ wr.cell? ⟨w.heap.size, 0, none⟩ = some (.string ⟨nm.toArray⟩) ∧ wr.cell? ⟨w.heap.size, 3, none⟩ = some (.slice a ls.length cap)) := fun wr hb => by
      have hb' := hb
      rw [hW0] at hb
      refine ⟨HB0.out.trans (hb.mono (by simp)), ?_, ?_⟩
      · rw [hb.cell (p := ⟨w.heap.size, 0, none⟩) (by simp)]; simp
      · rw [hb.cell (p := ⟨w.heap.size, 3, none⟩) (by simp)]; simp
    rw [← hW0]
    clear hW0 HB0
    go_loopw [3] (fun i wr => ∃ k : Nat, k ≤ ls.length ∧ i = .int .i64 k ∧ (∀ j, j < k → goodAt nm ls j = true) ∧ Below W0.heap.size W0 wr) (fun i _ => ls.length - (intOf i).toNat)
    case atStart => exact ⟨0, Nat.zero_le _, rfl, fun j hj => by omega, Below.refl _ _⟩
    case round =>
      obtain ⟨k, hk, rfl, hall, hnx⟩ := hrel
      have HA : Hid (∀ j, j < k → goodAt nm ls j = true) := hall
      clear hall
      obtain ⟨hb1, hc0, hc3⟩ := HW0.out wr hnx
      by_cases hlt : k < ls.length
      · rcases HS.out.below hb1 (Nat.le_refl _) with ⟨h0, _⟩ | ⟨g, off, cap', hsl, hg, hcl⟩
        · rw [h0] at hlt; exact absurd hlt (by simp)
        cases hsl
        have hcx : wr.cell? ⟨g, off + k, none⟩ = some (.string ⟨(ls.getD k []).toArray⟩) := hcl k hlt
        have hxl := HL.out _ (mem_getD hlt)
        have HG : Hid (goodAt nm ls k = (nmB (ls.getD k []) && !(ls.getD k [] == nm) && !((ls.take k).contains (ls.getD k [])))) := rfl
        have HFA : Hid (goodAt nm ls k = false → rightI ⟨nm, wd, sm, ls⟩ = 1) := fun h => HRF.out (rlB_false hlt h)
        have HTK : Hid (∀ w2, Below wr.heap.size wr w2 → StrsAt w2 (.slice (some ⟨g, off, none⟩) k cap) (ls.take k)) := fun w2 hb => (StrsAt.take hg hcl (by omega)).below hb (Nat.le_refl _)
        have hlk : (ls.take k).length = k := by rw [List.length_take]; omega
        have HAM : Hid (∀ b, (ls.take k).contains (ls.getD k []) = b → ∀ w2, Below wr.heap.size wr w2 → Calls Try.prog 20 #[.slice (some ⟨g, off, none⟩) k cap, .string ⟨(ls.getD k []).toArray⟩] w2 fun e w' => e = .returned (.bool b) ∧ w' = w2) := fun b hb w2 hw2 => by
          have := among_any (ls.take k) (by omega) (ls.getD k []) (some ⟨g, off, none⟩) cap w2 (by rw [hlk]; exact HTK.out w2 hw2)
          rw [hlk, hb] at this
          exact this
        clear hlk
        have hlti : (k : Int) < ls.length := by omega
        clear hcl
        generalize hxx : ls.getD k [] = x at *
        have HX : Hid (ls.getD k [] = x) := hxx
        clear hxx
        have HNX : Hid (∀ b, nmB x = b → ∀ w2, Calls Try.prog 19 #[.string ⟨x.toArray⟩] w2 fun e w' => e = .returned (.bool b) ∧ w' = w2) := fun b hb w2 => hb ▸ refName_any x w2 hxl
        cases hNx : nmB x with
        | false =>
          have HE := hidY hNx
          have HF := hidY (HFA.out (by rw [HG.out, hNx]; rfl))
          clear hNx
          go_wp2_with fail
          go_quiet ((go_at_call 19; exact Calls.quiet_of_same (HNX.out false HE.out _)))
          go_wp2
          go_ret
          exact ⟨ret_int HF.out.symm, below_drewN hb1 _⟩
        | true =>
          have HE := hidY hNx
          cases hxo : (x == nm) with
          | true =>
            have HF := hidY (HFA.out (by rw [HG.out, hNx, hxo]; rfl))
            clear hNx
            go_wp2_with fail
            go_quiet ((go_at_call 19; exact Calls.quiet_of_same (HNX.out true HE.out _)))
            go_wp2
            go_ret
            exact ⟨ret_int HF.out.symm, below_drewN hb1 _⟩
          | false =>
            cases hcn : (ls.take k).contains x with
            | true =>
              have HF := hidY (HFA.out (by rw [HG.out, hNx, hxo, hcn]; rfl))
              have HCN := hidY hcn
              clear hcn hNx
              go_wp2_with fail
              go_quiet ((first | (go_at_call 19; exact Calls.quiet_of_same (HNX.out true HE.out _)) | (go_at_call 20; exact Calls.quiet_of_same (HAM.out true HCN.out _ (below_drewN (Below.refl _ _) _)))))
              go_wp2
              go_ret
              exact ⟨ret_int HF.out.symm, below_drewN hb1 _⟩
            | false =>
              have HO : Hid (goodAt nm ls k = true) := by show goodAt nm ls k = true; rw [HG.out, hNx, hxo, hcn]; rfl
              have HCN := hidY hcn
              clear hcn hNx
              go_wp2_with fail
              go_quiet ((first | (go_at_call 19; exact Calls.quiet_of_same (HNX.out true HE.out _)) | (go_at_call 20; exact Calls.quiet_of_same (HAM.out false HCN.out _ (below_drewN (Below.refl _ _) _)))))
              go_wp2
              go_roundw
              case rel =>
                refine ⟨k + 1, by omega, by go_num, fun j hj => ?_, below_drewN hnx _⟩
                by_cases e : j = k
                · subst e; exact HO.out
                · exact HA.out j (by omega)
              case measure => simp [intOf]; omega
      · have hkl : k = ls.length := by omega
        have HT := hidY (HRT.out ((rlB_iff nm ls).2 (by rw [← hkl]; exact HA.out)))
        by_cases h8 : 8 < ls.length
        · have h8' : (8 : Int) < ls.length := by omega
          clear hkl
          go_wp2
          go_ret
          exact ⟨ret_int (by rw [HT.out, if_pos h8]), hb1⟩
        · have h8' : ¬ (8 : Int) < ls.length := by omega
          clear hkl
          go_wp2
          go_ret
          exact ⟨ret_int (by rw [HT.out, if_neg h8]), hb1⟩
end Go.Proofs.Ytnjjpahpaeblfab
