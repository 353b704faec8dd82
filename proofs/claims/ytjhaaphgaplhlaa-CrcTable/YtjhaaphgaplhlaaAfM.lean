/- Plain: a CRC is affine. -/
import Derived.Test.YtjhaaphgaplhlaaRow
namespace Go.Proofs.Ytjhaaphgaplhlaa
open Go
set_option linter.unusedVariables false

def xorL (a b : List UInt8) : List UInt8 := List.zipWith (· ^^^ ·) a b
theorem xorL_length {a b : List UInt8} (h : a.length = b.length) : (xorL a b).length = a.length := by simp [xorL, h]
theorem zipWith_append' {α β γ : Type} (f : α → β → γ) : ∀ (a c : List α) (b d : List β), a.length = b.length → List.zipWith f (a ++ c) (b ++ d) = List.zipWith f a b ++ List.zipWith f c d
  | [], _, [], _, _ => rfl
  | [], _, _ :: _, _, h => by simp at h
  | _ :: _, _, [], _, h => by simp at h
  | x :: a, c, y :: b, d, h => by simp only [List.cons_append, List.zipWith_cons_cons]; rw [zipWith_append' f a c b d (by simpa using h)]
theorem stream_length (inn : Bool) : ∀ l : List UInt8, (streamOf inn l).length = 8 * l.length
  | [] => rfl
  | x :: l => by
    have := stream_length inn l
    unfold streamOf at this ⊢
    rw [List.flatMap_cons, List.length_append, bitsOf_length, this, List.length_cons]; omega
theorem stream_xor (inn : Bool) : ∀ a b : List UInt8, a.length = b.length → streamOf inn (xorL a b) = List.zipWith xor (streamOf inn a) (streamOf inn b)
  | [], [], _ => rfl
  | [], _ :: _, h => by simp at h
  | _ :: _, [], h => by simp at h
  | x :: a, y :: b, h => by
    have := stream_xor inn a b (by simpa using h)
    unfold streamOf xorL at this ⊢
    rw [List.zipWith_cons_cons, List.flatMap_cons, List.flatMap_cons, List.flatMap_cons, this, zipWith_append' _ _ _ _ _ (by rw [bitsOf_length, bitsOf_length]), UInt8.toNat_xor, bitsOf_xor]
theorem turn_xor (m : Md) (r s : Nat) : (if m.out then rev (r ^^^ s) m.w else r ^^^ s) = (if m.out then rev r m.w else r) ^^^ (if m.out then rev s m.w else s) := by split; exact rev_xor _ _ _; rfl
/-- P402. -/
theorem affine (m : Md) (a b c : List UInt8) (hab : a.length = b.length) (hac : a.length = c.length) : sumS m a ^^^ sumS m b ^^^ sumS m c ^^^ sumS m (xorL (xorL a b) c) = 0 := by
  have h1 : regS m (xorL (xorL a b) c) = regS m a ^^^ regS m b ^^^ regS m c := by
    unfold regS
    rw [stream_xor _ _ _ (by rw [xorL_length hab, hac]), stream_xor _ _ _ hab]
    have e1 := run_xor m.w m.P (streamOf m.inn a) (streamOf m.inn b) m.I m.I (by rw [stream_length, stream_length, hab])
    have e2 := run_xor m.w m.P (List.zipWith xor (streamOf m.inn a) (streamOf m.inn b)) (streamOf m.inn c) (m.I ^^^ m.I) m.I (by rw [List.length_zipWith, stream_length, stream_length, stream_length]; omega)
    rw [e1, Nat.xor_self, Nat.zero_xor] at e2
    exact e2
  unfold sumS
  rw [h1]
  unfold toldS
  rw [turn_xor, turn_xor]
  generalize (if m.out = true then rev (regS m a) m.w else regS m a) = x
  generalize (if m.out = true then rev (regS m b) m.w else regS m b) = y
  generalize (if m.out = true then rev (regS m c) m.w else regS m c) = z
  generalize m.X = t
  apply Nat.eq_of_testBit_eq; intro i
  simp only [Nat.testBit_xor, Nat.zero_testBit]
  cases x.testBit i <;> cases y.testBit i <;> cases z.testBit i <;> cases t.testBit i <;> rfl
theorem take_next {D : List UInt8} {k : Nat} (h : k < D.length) : (D.take (k + 1)).map encB = (D.take k).map encB ++ [encB (D.getD k 0)] := by
  rw [List.take_add_one, List.getElem?_eq_getElem h, List.getD_eq_getElem?_getD, List.getElem?_eq_getElem h, List.map_append]; rfl
theorem xor3_at {a b c : List UInt8} {n k : Nat} (hk : k < n) (ha : n ≤ a.length) (hb : n ≤ b.length) (hc : n ≤ c.length) :
    (xorL (xorL (a.take n) (b.take n)) (c.take n)).getD k 0 = a.getD k 0 ^^^ b.getD k 0 ^^^ c.getD k 0 := by
  have g : ∀ l : List UInt8, n ≤ l.length → (l.take n)[k]? = some (l.getD k 0) := fun l hl => by
    rw [List.getElem?_take, if_pos hk, List.getD_eq_getElem?_getD, List.getElem?_eq_getElem (by omega)]; rfl
  unfold xorL
  rw [List.getD_eq_getElem?_getD, List.getElem?_zipWith, List.getElem?_zipWith, g a ha, g b hb, g c hc]
  rfl
theorem xor3_length {a b c : List UInt8} {n : Nat} (ha : n ≤ a.length) (hb : n ≤ b.length) (hc : n ≤ c.length) : (xorL (xorL (a.take n) (b.take n)) (c.take n)).length = n := by
  unfold xorL; simp; omega
theorem ByAt.take {w : World} {a : Option Addr} {n cap : Nat} {bs : List UInt8} (h : ByAt w (.slice a bs.length cap) bs) (hn : n ≤ bs.length) : ByAt w (.slice a n cap) (bs.take n) := by
  have hl : (bs.take n).length = n := by simp; omega
  rcases h with ⟨rfl, a', c', he, hcap⟩ | ⟨g, off, c', he, hg, hc⟩
  · cases he
    have : n = 0 := by simpa using hn
    subst this
    exact .inl ⟨by simp, a, cap, rfl, hcap⟩
  · cases he
    refine .inr ⟨g, off, cap, by rw [hl], hg, fun j hj => ?_⟩
    rw [hl] at hj
    rw [hc j (by omega), List.getD_eq_getElem?_getD, List.getD_eq_getElem?_getD, List.getElem?_take, if_pos hj]
end Go.Proofs.Ytjhaaphgaplhlaa
