/- What chars of the statements answers: a text's characters; and stands. -/
import Derived.Test.YtmmlmpcalhfigabChr
import Derived.Test.YtmmlmpcalhfigabCol
namespace Go.Proofs.Ytmmlmpcalhfigab
open Go.RowKit Go.Maps Go.Sort
set_option linter.unusedVariables false

/-- Where an iterator over a text stands. -/
def iterPos (w : World) (b : Nat) : Nat :=
  match w.heap[b]? with
  | some (.stringIter _ p) => p
  | _ => 0
theorem iterPos_of {w : World} {b : Nat} {s : ByteArray} {p : Nat} (h : w.heap[b]? = some (.stringIter s p)) : iterPos w b = p := by unfold iterPos; rw [h]
theorem next_step {w wr : World} {s : ByteArray} {pos n : Nat} {v : Value} {xs : List Value} (hi : wr.heap[w.heap.size]? = some (.stringIter s pos)) (hp : pos < s.size) (hb : Below w.heap.size w wr) (ho : wr.ownsRow w.heap.size 9 1 v n xs) :
    ∃ w1, (∀ ty, (Instr.next (.pointer (some ⟨w.heap.size, 0, none⟩)) true ty).run Try.prog wr = .ok (.tuple #[.bool true, .int .i64 pos, .int .i32 (Utf8.decode s pos).1]) w1) ∧ w1.heap[w.heap.size]? = some (.stringIter s (pos + (Utf8.decode s pos).2)) ∧ Below w.heap.size w w1 ∧ w1.ownsRow w.heap.size 9 1 v n xs ∧ w.heap.size < w1.heap.size := by
  have hlt := (Array.getElem?_eq_some_iff.1 hi).1
  have hblk : ∀ k, k ≠ w.heap.size → (wr.heap.setIfInBounds w.heap.size (.stringIter s (pos + (Utf8.decode s pos).2)))[k]? = wr.heap[k]? := fun k hk => by
    rw [Array.getElem?_setIfInBounds]
    rw [if_neg (fun e => hk e.symm)]
  refine ⟨{ wr with heap := wr.heap.setIfInBounds w.heap.size (.stringIter s (pos + (Utf8.decode s pos).2)) }, fun ty => ?_, ?_, ?_, ?_, ?_⟩
  · simp only [Instr.next, getObj, setObj, Sem.run_bind, Sem.run, hi, Result.andThen, hp, if_true]
    simp [goInt]
  · show (wr.heap.setIfInBounds _ _)[_]? = _
    rw [Array.getElem?_setIfInBounds, if_pos rfl, if_pos hlt]
  · exact hb.trans ⟨rfl, rfl, rfl, by simp, fun k hk => hblk k (by omega)⟩
  · refine ⟨ho.1, ?_⟩
    rcases ho.2 with h0 | ⟨g, cap, cur, hv, hbg, hg, h3⟩
    · exact .inl h0
    · refine .inr ⟨g, cap, cur, hv, hbg, ?_, h3⟩
      show (wr.heap.setIfInBounds _ _)[_]? = _
      rw [hblk g (fun e => by rw [e, hi] at hg; cases hg)]
      exact hg
  · simpa using hlt
theorem next_over {w wr : World} {s : ByteArray} {pos : Nat} (hi : wr.heap[w.heap.size]? = some (.stringIter s pos)) (hp : ¬ pos < s.size) :
    ∀ ty, (Instr.next (.pointer (some ⟨w.heap.size, 0, none⟩)) true ty).run Try.prog wr = .ok (.tuple #[.bool false]) wr := fun ty => by
  simp [Instr.next, getObj, Sem.run, hi, hp]
theorem ext_ba (s : List UInt8) (f n : Nat) : ({ data := s.toArray } : ByteArray).extract f (f + n) = ⟨((s.drop f).take n).toArray⟩ := by
  apply ByteArray.ext
  rw [ByteArray.data_extract]
  apply Array.toList_inj.1
  simp [List.extract_eq_take_drop]
theorem ext_end (s : List UInt8) (f : Nat) (h : f ≤ s.length) : ({ data := s.toArray } : ByteArray).extract f s.length = ⟨(s.drop f).toArray⟩ := by
  have := ext_ba s f (s.length - f)
  rw [show f + (s.length - f) = s.length by omega, List.take_of_length_le (by simp)] at this
  exact this
theorem drop_ne {s : List UInt8} {f : Nat} (h : f < s.length) : s.drop f ≠ [] := fun e => by
  have := congrArg List.length e
  simp at this
  omega
theorem chars_more {s : List UInt8} {O : List (List UInt8)} {f : Nat} (h : f < s.length) (ho : O ++ charsS (s.drop f) = charsS s) : (O ++ [(s.drop f).take (stepS (s.drop f))]) ++ charsS (s.drop (f + stepS (s.drop f))) = charsS s := by
  rw [charsS_in (drop_ne h), List.drop_drop] at ho
  rw [← ho]
  simp
theorem chars_last {s : List UInt8} {O : List (List UInt8)} {f : Nat} (h : f < s.length) (hp : ¬ f + stepS (s.drop f) < s.length) (ho : O ++ charsS (s.drop f) = charsS s) : O ++ [s.drop f] = charsS s := by
  rw [charsS_in (drop_ne h), List.drop_drop, show s.drop (f + stepS (s.drop f)) = [] from List.drop_eq_nil_of_le (by omega), charsS_nil, List.take_of_length_le (by simp; omega)] at ho
  exact ho
theorem chars_len (s : List UInt8) : (charsS s).length ≤ s.length := by
  have h1 := wid_chars s s.length 0 (by omega)
  have h2 := widS_le ⟨s.toArray⟩ s.length 0 (by simp [ByteArray.size])
  rw [List.drop_zero] at h1
  omega
set_option maxRecDepth 100000 in
set_option maxHeartbeats 1000000 in
theorem chars_any (s : List UInt8) (hs : s.length ≤ 1099781111808) (w : World) : Calls Try.prog 12 #[.string ⟨s.toArray⟩] w fun e w' => ∃ v, e = .returned v ∧ w'.ownsRow w.heap.size 9 1 v (charsS s).length ((charsS s).map encStr) ∧ Below w.heap.size w w' := by
  obtain ⟨i9, hi9, hy0, hy1, hy2⟩ := info_parts Try.info9
  have hsz : (⟨s.toArray⟩ : ByteArray).size = s.length := by simp [ByteArray.size]
  have HCL := hidD (chars_len s)
  have HSZ := hidD hsz
  clear hsz
  go_enter Try.func12, Try.ntmps12
  go_wp2_with fail
  go_loopw [3, 4] (fun oo ff wr => ∃ (O : List (List UInt8)) (f pos : Nat), ff = .int .i64 f ∧ O ++ charsS (s.drop f) = charsS s ∧ (pos = 0 ∧ f = 0 ∧ O = [] ∨ f < s.length ∧ pos = f + stepS (s.drop f)) ∧ wr.heap[w.heap.size]? = some (.stringIter ⟨s.toArray⟩ pos) ∧ wr.ownsRow w.heap.size 9 1 oo O.length (O.map encStr) ∧ Below w.heap.size w wr) (fun _ _ wr => s.length - iterPos wr w.heap.size)
  case atStart => exact ⟨[], 0, 0, rfl, by simp, .inl ⟨rfl, rfl, rfl⟩, World.iter_heap _ _ _, World.ownsRow_nil _ _ _ _, iter_below _ _ _⟩
  case round =>
    obtain ⟨O, f, pos, rfl, hO, hcase, hit, hown, hnx⟩ := hrel
    have HO := hidD hO
    have HIT := hidD hit
    have HOW := hidD hown
    have HNX := hidD hnx
    have hOl : O.length ≤ s.length := by
      have := congrArg List.length hO
      have := HCL.out
      simp at *
      omega
    obtain ⟨a3, c3, rfl⟩ := row_shape hown
    by_cases hp : pos < s.length
    · obtain ⟨w1, hn, hit1, hb1, ho1, hlt1⟩ := next_step hit (by rw [HSZ.out]; exact hp) hnx hown
      rw [decode_step] at hit1
      have HIT1 := hidD hit1
      have HB1 := hidD hb1
      have HO1 := hidD ho1
      have HPS := hidD (stepS_pos (s.drop pos))
      clear hO hit hown hnx hit1 hb1 ho1
      rcases hcase with ⟨rfl, rfl, rfl⟩ | ⟨hf, hpe⟩
      · go_wp2
        go_roundw
        case rel => exact ⟨[], 0, _, rfl, by simp, .inr ⟨hp, rfl⟩, by simpa using HIT1.out, HO1.out, HB1.out⟩
        case measure => rw [iterPos_of HIT1.out, iterPos_of HIT.out]; have := HPS.out; omega
      · have hfp : f ≤ pos := by omega
        have hpos : (0 : Int) < pos := by have := stepS_pos (s.drop f); omega
        have hex := ext_ba s f (stepS (s.drop f))
        rw [← hpe] at hex
        have HMO := hidD (chars_more hf HO.out)
        rw [← hpe] at HMO
        clear hpe
        generalize (s.drop f).take (stepS (s.drop f)) = X at *
        go_wp2_with (first
          | (at_builtin; refine wpList_append_own _ rfl _ _ 33 rfl w.heap.size 9 i9 (.string ⟨#[]⟩) 1 16 Try.underlying33 hi9 hy0 hy1 hy2 rfl (by decide) (.slice a3 O.length c3) O.length (O.map encStr) rfl (HO1.out.alloc _) ⟨w1.heap.size, 0, none⟩ 1 1 [encStr X] rfl rfl (new_cell1 w1 _ _) (by simp [Value.oneCell', encStr]) (by unfold maxLen; omega) (by omega) (by simp; omega) ?_; intro v' w3 hown' hg3 hnil3)
          | go_in)
        have HIT3 : Hid (w3.heap[w.heap.size]? = some (.stringIter ⟨s.toArray⟩ (pos + stepS (s.drop pos)))) := by
          show _ = _
          rw [hg3.block _ (by simp; omega) (fun e => by
            rcases HO1.out.2 with ⟨h0, _⟩ | ⟨g0, c0, cur, h0, hb0, hg0, _⟩
            · rw [h0] at e; cases e
            · rw [h0] at e
              simp [Value.ownBlock] at e
              rw [← e, HIT1.out] at hg0
              cases hg0)]
          rw [heap_alloc_old w1 _ hlt1]
          exact HIT1.out
        have HB3 : Hid (Below w.heap.size w w3) := (HB1.out.alloc (by omega) _).grown hg3 (by simp; omega) (fun k hk => by
          rcases HO1.out.2 with ⟨h0, _⟩ | ⟨g0, c0, cur, h0, hb0, _⟩
          · rw [h0] at hk; simp [Value.ownBlock] at hk
          · rw [h0] at hk; simp [Value.ownBlock] at hk; omega)
        have HO3 : Hid (w3.ownsRow w.heap.size 9 1 v' (O ++ [X]).length ((O ++ [X]).map encStr)) := by
          show World.ownsRow _ _ _ _ _ _ _
          simpa using hown'
        clear hown' hg3 hnil3
        go_wp2
        go_roundw
        case rel => exact ⟨O ++ [X], pos, _, rfl, HMO.out, .inr ⟨hp, rfl⟩, HIT3.out, HO3.out, HB3.out⟩
        case measure => rw [iterPos_of HIT3.out, iterPos_of HIT.out]; have := HPS.out; omega
    · have hn := next_over hit (by rw [HSZ.out]; exact hp)
      clear hO hit hown hnx
      rcases hcase with ⟨rfl, rfl, rfl⟩ | ⟨hf, hpe⟩
      · have h0 : s = [] := List.eq_nil_of_length_eq_zero (by omega)
        subst h0
        go_wp2
        go_ret
        exact ⟨_, rfl, by rw [charsS_nil]; exact HOW.out, HNX.out⟩
      · have hpl : (0 : Int) < s.length := by omega
        have hex := ext_end s f (by omega)
        have HLA := hidD (chars_last hf (by omega) HO.out)
        have hfl : f ≤ s.length := by omega
        have hlt1 : w.heap.size < wr.heap.size := (Array.getElem?_eq_some_iff.1 HIT.out).1
        clear hpe
        generalize s.drop f = X at *
        go_wp2_with (first
          | (at_builtin; refine wpList_append_own _ rfl _ _ 33 rfl w.heap.size 9 i9 (.string ⟨#[]⟩) 1 16 Try.underlying33 hi9 hy0 hy1 hy2 rfl (by decide) (.slice a3 O.length c3) O.length (O.map encStr) rfl (HOW.out.alloc _) ⟨wr.heap.size, 0, none⟩ 1 1 [encStr X] rfl rfl (new_cell1 wr _ _) (by simp [Value.oneCell', encStr]) (by unfold maxLen; omega) (by omega) (by simp; omega) ?_; intro v' w3 hown' hg3 hnil3)
          | go_in)
        have HB3 : Hid (Below w.heap.size w w3) := (HNX.out.alloc (by omega) _).grown hg3 (by simp; omega) (fun k hk => by
          rcases HOW.out.2 with ⟨h0, _⟩ | ⟨g0, c0, cur, h0, hb0, _⟩
          · rw [h0] at hk; simp [Value.ownBlock] at hk
          · rw [h0] at hk; simp [Value.ownBlock] at hk; omega)
        have HO3 : Hid (w3.ownsRow w.heap.size 9 1 v' (O ++ [X]).length ((O ++ [X]).map encStr)) := by
          show World.ownsRow _ _ _ _ _ _ _
          simpa using hown'
        rw [HLA.out] at HO3
        clear hown' hg3 hnil3
        go_wp2
        go_ret
        exact ⟨_, rfl, HO3.out, HB3.out⟩
end Go.Proofs.Ytmmlmpcalhfigab
