/- AesOne: the walk. -/
import Derived.Test.YtgefampdfhbmbabLw3
import Derived.Laws.Unary
namespace Go.Proofs.Ytgefampdfhbmbab
open Go.RowKit
set_option linter.unusedVariables false

set_option maxRecDepth 100000 in
set_option maxHeartbeats 800000 in
theorem one_no (l : List UInt8) (h16 : l.length ≠ 16) (h24 : l.length ≠ 24) (h32 : l.length ≠ 32) (v x y : Value) (w : World) (hv : ByAt w v l) : Calls Try.prog 3 #[v, x, y] w fun e w' => e = .returned (.bool true) ∧ Below w.heap.size w w' := by
  have HAV := hidD alive_any
  have HPN : Hid (∀ wA, Below w.heap.size w wA → Calls Try.prog 6 #[v] wA fun e w' => e = .returned (.tuple #[.pointer none, .int .i64 90]) ∧ Below wA.heap.size wA w') := fun wA hb => pNew_no l h16 h24 h32 v wA (hv.next hb)
  clear h16 h24 h32 hv
  go_enter Try.func3, Try.ntmps3
  go_wp2_with (first
    | (go_at_call 5; refine (HAV.out _).mono ?_; rintro e w1 ⟨rfl, hb⟩; have B1 := hidD hb; clear hb)
    | (go_at_call 6; refine (HPN.out _ B1.out).mono ?_; rintro e w2 ⟨rfl, hb⟩; have B2 : Hid (Below w.heap.size w w2) := Below.next B1.out hb; clear hb))
  go_ret
  exact ⟨rfl, B2.out⟩
set_option maxRecDepth 100000 in
set_option maxHeartbeats 800000 in
theorem one_short (l : List UInt8) (n : Nat) (hn : n = 4 ∨ n = 6 ∨ n = 8) (hl : l.length = 4 * n) (p q : Nat) (hpq : p ≠ 16 ∨ q ≠ 16) (a1 a2 : Option Addr) (c1 c2 : Nat) (v : Value) (w : World) (hv : SlAt w v l) : Calls Try.prog 3 #[v, .slice a1 p c1, .slice a2 q c2] w fun e w' => e = .returned (.bool true) ∧ Below w.heap.size w w' := by
  have HAV := hidD alive_any
  have HPN : Hid (∀ wA, Below w.heap.size w wA → Calls Try.prog 6 #[v] wA fun e w' => ∃ p, e = .returned (.tuple #[.pointer (some ⟨p, 0, none⟩), .int .i64 0]) ∧ AcAt w' wA.heap.size p n (blk l) ∧ Below wA.heap.size wA w') := fun wA hb => pNew_any l n hn hl v wA (hv.next hb)
  clear hn hl hv
  by_cases hp : p = 16
  · have hq : (q : Int) ≠ 16 := by omega
    have hqb : ((q : Int) != 16) = true := bne_iff_ne.2 hq
    have hq' : ¬ (q : Int) = 16 := hq
    clear hpq hq
    subst hp
    go_enter Try.func3, Try.ntmps3
    go_wp2_with (first
      | (go_at_call 5; refine (HAV.out _).mono ?_; rintro e w1 ⟨rfl, hb⟩; have B1 := hidD hb; clear hb)
      | (go_at_call 6; refine (HPN.out _ B1.out).mono ?_; rintro e w2 ⟨pp, rfl, _, hb⟩; have B2 : Hid (Below w.heap.size w w2) := Below.next B1.out hb; clear hb))
    go_ret
    exact ⟨rfl, B2.out⟩
  · have hp1 : (p : Int) ≠ 16 := by omega
    have hpb : ((p : Int) != 16) = true := bne_iff_ne.2 hp1
    have hp' : ¬ (p : Int) = 16 := hp1
    clear hpq hp hp1
    go_enter Try.func3, Try.ntmps3
    go_wp2_with (first
      | (go_at_call 5; refine (HAV.out _).mono ?_; rintro e w1 ⟨rfl, hb⟩; have B1 := hidD hb; clear hb)
      | (go_at_call 6; refine (HPN.out _ B1.out).mono ?_; rintro e w2 ⟨pp, rfl, _, hb⟩; have B2 : Hid (Below w.heap.size w w2) := Below.next B1.out hb; clear hb))
    go_ret
    exact ⟨rfl, B2.out⟩
theorem en_iff (n : Nat) (key : Nat → UInt8) (a b : List UInt8) (ha : a.length = 16) (hb : b.length = 16) : decide (toL (enS (n + 6) (rkS n key) (blk a)) = toL (enS (n + 6) (rkS n key) (blk b))) = decide (a = b) := by
  congr 1
  refine propext ⟨fun h => ?_, fun h => by rw [h]⟩
  have h1 := en_one (toL_inj h)
  have h2 := toL_congr h1
  rwa [toL_blk ha, toL_blk hb] at h2
set_option maxRecDepth 100000 in
set_option maxHeartbeats 1600000 in
theorem one_any (l a b : List UInt8) (n : Nat) (hn : n = 4 ∨ n = 6 ∨ n = 8) (hl : l.length = 4 * n) (ha : a.length = 16) (hb : b.length = 16) (v x y : Value) (w : World) (hv : SlAt w v l) (hx : SlAt w x a) (hy : SlAt w y b) : Calls Try.prog 3 #[v, x, y] w fun e w' => e = .returned (.bool true) ∧ Below w.heap.size w w' := by
  have hn8 : n ≤ 8 := by omega
  have HAV := hidD alive_any
  have HPN : Hid (∀ wA, Below w.heap.size w wA → Calls Try.prog 6 #[v] wA fun e w' => ∃ p, e = .returned (.tuple #[.pointer (some ⟨p, 0, none⟩), .int .i64 0]) ∧ AcAt w' wA.heap.size p n (blk l) ∧ Below wA.heap.size wA w') := fun wA hb => pNew_any l n hn hl v wA (hv.next hb)
  have HE1 : Hid (∀ B p wA, AcAt wA B p n (blk l) → Below w.heap.size w wA → Calls Try.prog 7 #[.pointer (some ⟨p, 0, none⟩), x] wA fun e w' => ∃ vo, e = .returned (.tuple #[vo, .int .i64 0]) ∧ SlAt w' vo (toL (enS (n + 6) (rkS n (blk l)) (blk a))) ∧ Below wA.heap.size wA w') := fun B p wA h hb => pEncrypt_any a ha n B p hn8 (blk l) x wA h (hx.next hb).by'
  have HE2 : Hid (∀ B p wA, AcAt wA B p n (blk l) → Below w.heap.size w wA → Calls Try.prog 7 #[.pointer (some ⟨p, 0, none⟩), y] wA fun e w' => ∃ vo, e = .returned (.tuple #[vo, .int .i64 0]) ∧ SlAt w' vo (toL (enS (n + 6) (rkS n (blk l)) (blk b))) ∧ Below wA.heap.size wA w') := fun B p wA h hbl => pEncrypt_any b hb n B p hn8 (blk l) y wA h (hy.next hbl).by'
  have HS1 : Hid (∀ wA u v, ByAt wA u (toL (enS (n + 6) (rkS n (blk l)) (blk a))) → ByAt wA v (toL (enS (n + 6) (rkS n (blk l)) (blk b))) → Calls Try.prog 8 #[u, v] wA fun e w' => e = .returned (.bool (decide (a = b))) ∧ w' = wA) := fun wA u v hu hv => by
    have h := same_any _ _ u v wA hu hv
    rwa [en_iff n (blk l) a b ha hb] at h
  have HS2 : Hid (∀ wA, Below w.heap.size w wA → Calls Try.prog 8 #[x, y] wA fun e w' => e = .returned (.bool (decide (a = b))) ∧ w' = wA) := fun wA hbl => same_any a b x y wA (hx.next hbl).by' (hy.next hbl).by'
  obtain ⟨⟨ax, cx, rfl, _, _⟩, _⟩ := hx
  obtain ⟨⟨ay, cy, rfl, _, _⟩, _⟩ := hy
  rw [ha, hb] at *
  generalize toL (enS (n + 6) (rkS n (blk l)) (blk a)) = ea at *
  generalize toL (enS (n + 6) (rkS n (blk l)) (blk b)) = eb at *
  have hDD : (decide (a = b) == decide (a = b)) = true := by cases decide (a = b) <;> rfl
  generalize decide (a = b) = DD at *
  clear hn hl hv ha hb
  go_enter Try.func3, Try.ntmps3
  go_wp2_with (first
    | (go_at_call 5; refine (HAV.out _).mono ?_; rintro e w1 ⟨rfl, hb⟩; have B1 := hidD hb; clear hb)
    | (go_at_call 6; refine (HPN.out _ B1.out).mono ?_; rintro e w2 ⟨pp, rfl, hac, hb⟩; have A2 := hidD hac; have B2 : Hid (Below w.heap.size w w2) := Below.next B1.out hb; clear hb hac)
    | (go_at_call 7; refine (HE1.out _ _ _ A2.out B2.out).mono ?_; rintro e w3 ⟨v3, rfl, hs3, hb⟩; obtain ⟨a3, n3, c3, hvv⟩ := sl_shape hs3; subst hvv; have S3 := hidD hs3; have A3 := hidD (A2.out.next hb); have B3 : Hid (Below w.heap.size w w3) := Below.next B2.out hb; clear hb hs3 HE1)
    | (go_at_call 7; refine (HE2.out _ _ _ A3.out B3.out).mono ?_; rintro e w4 ⟨v4, rfl, hs4, hb⟩; obtain ⟨a4, n4, c4, hvv⟩ := sl_shape hs4; subst hvv; have S4 := hidD hs4; have S34 := hidD (S3.out.next hb); have B4 : Hid (Below w.heap.size w w4) := Below.next B3.out hb; clear hb hs4 HE2)
    | (go_at_call 8; refine (HS1.out _ _ _ S34.out.by' S4.out.by').mono ?_; rintro e w5 ⟨rfl, hw5⟩; subst w5; clear HS1)
    | (go_at_call 8; refine (HS2.out _ B4.out).mono ?_; rintro e w6 ⟨rfl, hw6⟩; subst w6; clear HS2))
  go_ret
  exact ⟨by simp, B4.out⟩
theorem aesOne_any (l a b : List UInt8) (v x y : Value) (w : World) (hv : SlAt w v l) (hx : SlAt w x a) (hy : SlAt w y b) : Calls Try.prog 3 #[v, x, y] w fun e w' => e = .returned (.bool true) ∧ Below w.heap.size w w' := by
  by_cases hk : l.length = 16 ∨ l.length = 24 ∨ l.length = 32
  · obtain ⟨n, hn, hn4⟩ : ∃ n, (n = 4 ∨ n = 6 ∨ n = 8) ∧ l.length = 4 * n := ⟨l.length / 4, by omega, by omega⟩
    by_cases hab : a.length = 16 ∧ b.length = 16
    · exact one_any l a b n hn hn4 hab.1 hab.2 v x y w hv hx hy
    · obtain ⟨⟨ax, cx, rfl, _, _⟩, _⟩ := hx
      obtain ⟨⟨ay, cy, rfl, _, _⟩, _⟩ := hy
      exact one_short l n hn hn4 _ _ (by omega) ax ay cx cy v w hv
  · exact one_no l (by omega) (by omega) (by omega) v x y w hv.by'
end Go.Proofs.Ytgefampdfhbmbab
