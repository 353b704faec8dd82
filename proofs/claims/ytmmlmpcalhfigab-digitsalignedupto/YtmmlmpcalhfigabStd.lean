/- What stands of the statements answers where the characters stand there; and where they stand in a line. -/
import Derived.Test.YtmmlmpcalhfigabChs
namespace Go.Proofs.Ytmmlmpcalhfigab
open Go.RowKit Go.Maps Go.Sort
set_option linter.unusedVariables false

set_option maxRecDepth 100000 in
set_option maxHeartbeats 1000000 in
theorem stands_any (C X : List (List UInt8)) (p : Nat) (hC : C.length ≤ 1099781111808) (hfit : p + X.length ≤ C.length) (heq : ∀ j, j < X.length → C.getD (p + j) [] = X.getD j []) (a1 a2 : Option Addr) (c1 c2 : Nat) (w : World) (h1 : StrsAt w (.slice a1 C.length c1) C) (h2 : StrsAt w (.slice a2 X.length c2) X) :
    Calls Try.prog 13 #[.slice a1 C.length c1, .int .i64 p, .slice a2 X.length c2] w fun e w' => e = .returned (.bool true) ∧ Below w.heap.size w w' := by
  have H1 := hidD h1
  have H2 := hidD h2
  have HE := hidD heq
  clear h1 h2 heq
  go_enter Try.func13, Try.ntmps13
  go_wp2_with fail
  go_loopw [7] (fun i wr => ∃ k : Nat, k ≤ X.length ∧ i = .int .i64 k ∧ Below w.heap.size w wr) (fun i _ => X.length - (intOf i).toNat)
  case atStart => exact ⟨0, Nat.zero_le _, rfl, Below.refl _ _⟩
  case round =>
    obtain ⟨k, hk, rfl, hnx⟩ := hrel
    by_cases hlt : k < X.length
    · rcases H1.out with ⟨h0, _⟩ | ⟨g, off, cap', hsl, hg, hcl⟩
      · have hz : C.length = 0 := by rw [h0]; rfl
        omega
      rcases H2.out with ⟨h0, _⟩ | ⟨g', off', cap'', hsl', hg', hcl'⟩
      · rw [h0] at hlt; exact absurd hlt (by simp)
      cases hsl
      cases hsl'
      have hcx0 := (hnx.cell (p := ⟨g, off + (p + k), none⟩) hg).trans (hcl (p + k) (by omega))
      have hcx : wr.cell? ⟨g, off + (p + k), none⟩ = some (.string ⟨(X.getD k []).toArray⟩) := by rw [hcx0, HE.out k hlt, encStr]
      have hcy : wr.cell? ⟨g', off' + k, none⟩ = some (.string ⟨(X.getD k []).toArray⟩) := (hnx.cell (p := ⟨g', off' + k, none⟩) hg').trans (hcl' k hlt)
      clear hcl hcl' hcx0
      have hlti : (k : Int) < X.length := by omega
      have hlt2 : (p : Int) + k < C.length := by omega
      generalize X.getD k [] = x at *
      have hbne : (x != x) = false := by simp
      go_wp2_with fail
      go_quiet (fail)
      go_wp2
      go_roundw
      case rel => exact ⟨k + 1, by omega, by go_num, below_drewN hnx _⟩
      case measure => simp [intOf]; omega
    · go_wp2
      go_ret
      exact ⟨rfl, hnx⟩
/-- Where a column begins. -/
def offS (ws : List Nat) : Nat → Nat
  | 0 => 0
  | k + 1 => offS ws k + ws.getD k 0 + 2
theorem wid_len (x : List UInt8) : (charsS x).length = wid x := by
  have := wid_chars x x.length 0 (by omega)
  rw [List.drop_zero] at this
  exact this.symm
/-- What stands ahead of a cell ends with a blank, or is nothing. -/
theorem head_chars {ss : List (List UInt8)} {ws : List Nat} (hw : ∀ k, k < ss.length → wid (ss.getD k []) ≤ ws.getD k 0 ∧ ws.getD k 0 ≤ 255) : ∀ k, k < ss.length → ∃ A : List (List UInt8), A.length = offS ws k ∧ ∀ t, charsS (lineTo ss ws [] k ++ gapS k ++ t) = A ++ charsS t
  | 0, h => ⟨[], rfl, fun t => by simp [lineTo, gapS]⟩
  | k + 1, h => by
    obtain ⟨A, hA, hc⟩ := head_chars hw k (by omega)
    obtain ⟨h1, h2⟩ := hw k (by omega)
    have hm : (missS ⟨(ss.getD k []).toArray⟩ ((ws.getD k 0 : Nat) : Int)).toNat = ws.getD k 0 - wid (ss.getD k []) := by
      unfold missS wid
      rw [if_neg (by omega), if_neg (by omega)]
      omega
    have hcell : cellS ss ws [] k = ss.getD k [] ++ List.replicate (ws.getD k 0 - wid (ss.getD k [])) 32 := by
      unfold cellS leftS
      rw [if_neg (by simp), if_pos (by omega), hm]
    refine ⟨A ++ (charsS (ss.getD k []) ++ List.replicate (ws.getD k 0 - wid (ss.getD k [])) [32] ++ [[32], [32]]), ?_, fun t => ?_⟩
    · simp only [List.length_append, List.length_replicate, List.length_cons, List.length_nil, wid_len, hA, offS]
      omega
    · have hg : gapS (k + 1) = [32, 32] := by unfold gapS; rw [if_pos (by omega)]
      rw [lineTo, hg, hcell]
      have e : lineTo ss ws [] k ++ gapS k ++ (ss.getD k [] ++ List.replicate (ws.getD k 0 - wid (ss.getD k [])) 32) ++ [32, 32] ++ t = lineTo ss ws [] k ++ gapS k ++ (ss.getD k [] ++ List.replicate (ws.getD k 0 - wid (ss.getD k [])) 32 ++ 32 :: (32 :: t)) := by simp
      rw [e, hc, charsS_pad, charsS_blank, charsS_blank]
      simp
/-- The rest of a line behind the cells ahead. -/
theorem line_split (ss : List (List UInt8)) (ws : List Nat) (rs : List Bool) (k : Nat) : ∀ n, k < n → ∃ t, lineTo ss ws rs n = lineTo ss ws rs k ++ gapS k ++ cellS ss ws rs k ++ t ∧ (n = k + 1 → t = []) ∧ (k + 1 < n → ∃ u, t = 32 :: u)
  | 0, h => by omega
  | n + 1, h => by
    by_cases hk : k = n
    · subst hk
      exact ⟨[], by simp [lineTo], fun _ => rfl, fun h => by omega⟩
    · obtain ⟨t, h1, h2, h3⟩ := line_split ss ws rs k n (by omega)
      refine ⟨t ++ (gapS n ++ cellS ss ws rs n), by rw [lineTo, h1]; simp, fun h => by omega, fun _ => ?_⟩
      by_cases hn : n = k + 1
      · rw [h2 hn]
        have hg : gapS n = [32, 32] := by unfold gapS; rw [if_pos (by omega)]
        exact ⟨32 :: cellS ss ws rs n, by rw [hg]; rfl⟩
      · obtain ⟨u, hu⟩ := h3 (by omega)
        exact ⟨u ++ (gapS n ++ cellS ss ws rs n), by rw [hu]; rfl⟩
/-- In a line each cell's characters stand where its column begins. -/
theorem line_stands {ss : List (List UInt8)} {ws : List Nat} (hw : ∀ k, k < ss.length → wid (ss.getD k []) ≤ ws.getD k 0 ∧ ws.getD k 0 ≤ 255) (k : Nat) (hk : k < ss.length) :
    ∃ A B : List (List UInt8), charsS (lineTo ss ws [] ss.length) = A ++ (charsS (ss.getD k []) ++ B) ∧ A.length = offS ws k := by
  obtain ⟨A, hA, hc⟩ := head_chars hw k hk
  obtain ⟨t, h1, h2, h3⟩ := line_split ss ws [] k ss.length hk
  by_cases hl : ss.length = k + 1
  · refine ⟨A, [], ?_, hA⟩
    have hcell : cellS ss ws [] k = ss.getD k [] := by
      unfold cellS
      rw [if_neg (by simp), if_neg (by omega)]
    rw [h1, h2 hl, hcell, List.append_nil, hc, List.append_nil]
  · obtain ⟨u, hu⟩ := h3 (by omega)
    have hcell : ∃ n, cellS ss ws [] k = ss.getD k [] ++ List.replicate n 32 := by
      unfold cellS leftS
      rw [if_neg (by simp), if_pos (by omega)]
      exact ⟨_, rfl⟩
    obtain ⟨n, hn⟩ := hcell
    refine ⟨A, List.replicate n [32] ++ charsS (32 :: u), ?_, hA⟩
    rw [h1, hu, hn, List.append_assoc, hc, charsS_pad, List.append_assoc]
theorem stands_at {C A X B : List (List UInt8)} (h : C = A ++ (X ++ B)) : A.length + X.length ≤ C.length ∧ ∀ j, j < X.length → C.getD (A.length + j) [] = X.getD j [] := by
  subst h
  refine ⟨by simp, fun j hj => ?_⟩
  rw [List.getD, List.getD, List.getElem?_append_right (by omega), List.getElem?_append_left (by omega)]
  congr 2
  omega
end Go.Proofs.Ytmmlmpcalhfigab
