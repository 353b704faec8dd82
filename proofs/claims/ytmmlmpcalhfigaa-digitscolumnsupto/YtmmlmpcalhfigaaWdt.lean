/- How wide a column is: the document's widest. -/
import Derived.Test.YtmmlmpcalhfigaaTxt
import Derived.Test.YtmmlmpcalhfigaaWid
namespace Go.Proofs.Ytmmlmpcalhfigaa
open Go.RowKit Go.Maps Go.Sort
set_option linter.unusedVariables false

/-- A row of texts in memory. -/
structure Rw where
  a : Option Addr
  cap : Nat
  ss : List (List UInt8)
def rw0 : Rw := ⟨none, 0, []⟩
/-- A slice of rows. -/
def RowsAt (w : World) (sl : Value) (L : List Rw) : Prop :=
  ((L = [] ∧ ∃ a cap, sl = .slice a 0 cap) ∨ ∃ g off cap, sl = .slice (some ⟨g, off, none⟩) L.length cap ∧ g < w.heap.size ∧ ∀ i, i < L.length → w.cell? ⟨g, off + i, none⟩ = some (.slice (L.getD i rw0).a (L.getD i rw0).ss.length (L.getD i rw0).cap)) ∧ ∀ r ∈ L, StrsAt w (.slice r.a r.ss.length r.cap) r.ss
structure SmallRows (L : List Rw) : Prop where
  rows : L.length ≤ 1048576
  cells : ∀ r ∈ L, r.ss.length ≤ 1048576
  texts : ∀ r ∈ L, ∀ x ∈ r.ss, x.length ≤ 1048576
theorem RowsAt.below {B : Nat} {w w' : World} {sl : Value} {L : List Rw} (h : RowsAt w sl L) (hb : Below B w w') (hB : w.heap.size ≤ B) : RowsAt w' sl L := by
  refine ⟨?_, fun r hr => (h.2 r hr).below hb hB⟩
  rcases h.1 with h | ⟨g, off, cap, rfl, hg, hc⟩
  · exact .inl h
  · exact .inr ⟨g, off, cap, rfl, Nat.lt_of_lt_of_le hg hb.size, fun i hi => (hb.cell (p := ⟨g, off + i, none⟩) (Nat.lt_of_lt_of_le hg hB)).trans (hc i hi)⟩
theorem mem_getDR {L : List Rw} {k : Nat} (h : k < L.length) : L.getD k rw0 ∈ L := by
  rw [List.getD, List.getElem?_eq_getElem h]; exact List.getElem_mem h
theorem mem_getDS {L : List (List UInt8)} {k : Nat} (h : k < L.length) : L.getD k [] ∈ L := by
  rw [List.getD, List.getElem?_eq_getElem h]; exact List.getElem_mem h

def widRow (r : Rw) (k : Nat) : Nat := if k < r.ss.length then widS ⟨(r.ss.getD k []).toArray⟩ 0 else 0
def maxTo (L : List Rw) (k : Nat) : Nat → Nat
  | 0 => 0
  | n + 1 => max (maxTo L k n) (widRow (L.getD n rw0) k)
def widestS (L : List Rw) (k : Nat) : Nat := min 255 (maxTo L k L.length)
theorem widRow_le {L : List Rw} (h : SmallRows L) {n k : Nat} (hn : n < L.length) : widRow (L.getD n rw0) k ≤ 1048576 := by
  unfold widRow
  split
  · rename_i hk
    have h1 := h.texts _ (mem_getDR hn) _ (mem_getDS hk)
    have h2 := widS_le ⟨((L.getD n rw0).ss.getD k []).toArray⟩ _ 0 (Nat.le_refl _)
    rw [ba_size] at h2
    omega
  · omega
theorem maxTo_le {L : List Rw} (h : SmallRows L) (k : Nat) : ∀ n, n ≤ L.length → maxTo L k n ≤ 1048576
  | 0, _ => by rw [maxTo]; omega
  | n + 1, hn => by
    have h1 := maxTo_le h k n (by omega)
    have h2 := widRow_le h (n := n) (k := k) (by omega)
    rw [maxTo]; omega

set_option maxRecDepth 100000 in
set_option maxHeartbeats 400000 in
theorem refWidest_any (L : List Rw) (hs : SmallRows L) (k : Nat) (hk : k ≤ 1048576) (a : Option Addr) (cap : Nat) (w : World) (hR : RowsAt w (.slice a L.length cap) L) :
    Calls Try.prog 33 #[.slice a L.length cap, .int .i64 k] w fun e w' => e = .returned (.int .i64 (widestS L k)) ∧ Below w.heap.size w w' := by
  have hl := hs.rows
  have HS := hidD hs
  have HR : Hid (∀ w', Below w.heap.size w w' → RowsAt w' (.slice a L.length cap) L) := fun w' hb => hR.below hb (Nat.le_refl _)
  clear hR hs
  go_enter Try.func33, Try.ntmps33
  go_wp2_with fail
  go_loopw [5, 6] (fun ww ii wr => ∃ n : Nat, n ≤ L.length ∧ ii = .int .i64 n ∧ ww = .int .i64 (maxTo L k n) ∧ Below w.heap.size w wr) (fun _ ii _ => L.length - (intOf ii).toNat)
  case atStart => exact ⟨0, Nat.zero_le _, rfl, rfl, Below.refl _ _⟩
  case round =>
    obtain ⟨n, hn, rfl, rfl, hnx⟩ := hrel
    have HNX := hidD hnx
    have hszn := hnx.size
    have hmx := maxTo_le HS.out k n hn
    by_cases hlt : n < L.length
    · have hRw := HR.out wr hnx
      have hst := hRw.2 _ (mem_getDR hlt)
      rcases hRw.1 with ⟨h0, _⟩ | ⟨g, off, cap', hsl, hg, hcl⟩
      · rw [h0] at hlt; exact absurd hlt (by simp)
      cases hsl
      have hc := hcl n hlt
      have hni : (n : Int) < L.length := by omega
      have hcl2 := HS.out.cells _ (mem_getDR hlt)
      have HM : Hid (∀ v, widRow (L.getD n rw0) k = v → maxTo L k (n + 1) = max (maxTo L k n) v) := fun v hv => by rw [← hv]; rfl
      have HTX := hidD (HS.out.texts _ (mem_getDR hlt))
      have HCG : Hid (∀ w', Below wr.heap.size wr w' → w'.cell? ⟨g, off + n, none⟩ = some (.slice (L.getD n rw0).a (L.getD n rw0).ss.length (L.getD n rw0).cap)) := fun w' hb => (hb.cell (p := ⟨g, off + n, none⟩) hg).trans hc
      clear hcl hRw hnx
      generalize L.getD n rw0 = r at *
      generalize maxTo L k n = M at *
      by_cases hkr : k < r.ss.length
      · rcases hst with ⟨h0, _⟩ | ⟨g2, off2, cap2, hsl2, hg2, hcl2'⟩
        · rw [h0] at hkr; exact absurd hkr (by simp)
        rw [Value.slice.injEq] at hsl2
        obtain ⟨e1, _, _⟩ := hsl2
        rw [e1] at hc HCG
        have hcx : wr.cell? ⟨g2, off2 + k, none⟩ = some (.string ⟨(r.ss.getD k []).toArray⟩) := hcl2' k hkr
        have hki : (k : Int) < r.ss.length := by omega
        have hxl := HTX.out _ (mem_getDS hkr)
        have HX := hidD (HM.out _ (by rw [widRow, if_pos hkr]))
        have HCX : Hid (∀ w', Below wr.heap.size wr w' → w'.cell? ⟨g2, off2 + k, none⟩ = some (.string ⟨(r.ss.getD k []).toArray⟩)) := fun w' hb => (hb.cell (p := ⟨g2, off2 + k, none⟩) hg2).trans hcx
        clear hcl2' HM
        generalize r.ss.getD k [] = x at *
        have HW := hidD (fun (w : World) => refWidth_any ⟨x.toArray⟩ (by rw [ba_size]; unfold maxLen; omega) w)
        have hwd := widS_le ⟨x.toArray⟩ _ 0 (Nat.le_refl _)
        rw [ba_size] at hwd
        generalize widS ⟨x.toArray⟩ 0 = wd at *
        by_cases hgt : (M : Int) < wd
        · go_wp2_with fail
          refine (HW.out _).mono ?_
          rintro e w1 ⟨rfl, hb1⟩
          have c1 := HCG.out _ hb1
          have c2 := HCX.out _ hb1
          have HB1 := hidD hb1
          have hs1 := hb1.size
          clear hb1 hc hcx
          go_wp2_with fail
          refine (HW.out _).mono ?_
          rintro e w2 ⟨rfl, hb2⟩
          go_wp2
          go_roundw
          case rel => exact ⟨n + 1, by omega, by go_num, by rw [HX.out]; congr 1; omega, HNX.out.trans ((HB1.out.mono hszn).trans (hb2.mono (by omega)))⟩
          case measure => simp [intOf]; omega
        · go_wp2_with fail
          refine (HW.out _).mono ?_
          rintro e w1 ⟨rfl, hb1⟩
          go_wp2
          go_roundw
          case rel => exact ⟨n + 1, by omega, by go_num, by rw [HX.out]; congr 1; omega, HNX.out.trans (hb1.mono hszn)⟩
          case measure => simp [intOf]; omega
      · have hki : ¬ (k : Int) < r.ss.length := by omega
        have HX := hidD (HM.out 0 (by rw [widRow, if_neg hkr]))
        clear HM
        go_wp2
        go_roundw
        case rel => exact ⟨n + 1, by omega, by go_num, by rw [HX.out]; congr 1; omega, HNX.out⟩
        case measure => simp [intOf]; omega
    · obtain rfl : n = L.length := by omega
      have HE : Hid (widestS L k = min 255 (maxTo L k L.length)) := rfl
      generalize maxTo L k L.length = M at *
      clear hnx
      by_cases h255 : (255 : Int) < M
      · go_wp2
        go_ret
        exact ⟨by rw [HE.out]; exact ret_i64 (by omega), HNX.out⟩
      · go_wp2
        go_ret
        exact ⟨by rw [HE.out]; exact ret_i64 (by omega), HNX.out⟩
end Go.Proofs.Ytmmlmpcalhfigaa
