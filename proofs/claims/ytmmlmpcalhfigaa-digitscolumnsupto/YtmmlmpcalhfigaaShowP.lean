/- What markOf and Show of the program answer. -/
import Derived.Test.YtmmlmpcalhfigaaDigO
import Derived.Test.YtmmlmpcalhfigaaShelf
namespace Go.Proofs.Ytmmlmpcalhfigaa
open Go.RowKit
set_option linter.unusedVariables false

theorem rep_one (c : UInt8) : ∀ n : Nat, Lib.repeatL [c] n = List.replicate n c
  | 0 => rfl
  | n + 1 => by
    rw [Lib.repeatL, rep_one c n]
    rfl
theorem digS_lenP {k : Nat} : ∀ (f v : Nat) (acc : List UInt8), (digS k f v acc).length ≤ f + acc.length
  | 0, v, acc => by simp [digS]
  | f + 1, v, acc => by
    rw [digS]
    split
    · have := digS_lenP (k := k) f (v / k) (hexC (v % k) :: acc)
      simp only [List.length_cons] at this
      omega
    · omega
theorem showP_eq {v : Nat} {kind width : Int} {m : List UInt8} (hm : markL kind = some m) (hw : ¬ (width < 0 ∨ 64 < width)) : showS v kind width = (m ++ padS width.toNat (digS kind.toNat 65 v []), 0) := by
  unfold showS; rw [hm]; simp only; rw [if_neg hw]
theorem showP_bad {v : Nat} {kind width : Int} {m : List UInt8} (hm : markL kind = some m) (hw : width < 0 ∨ 64 < width) : showS v kind width = ([], 1) := by
  unfold showS; rw [hm]; simp only; rw [if_pos hw]
theorem showP_none {v : Nat} {kind width : Int} (hm : markL kind = none) : showS v kind width = ([], 1) := by
  unfold showS; rw [hm]

set_option maxHeartbeats 400000 in
theorem markOf_any (kind : Int) (w : World) : Calls Try.prog 37 #[.int .i64 kind] w fun e w' => e = .returned (.tuple #[.string ⟨((markL kind).getD []).toArray⟩, .bool (markL kind).isSome]) ∧ w' = w := by
  by_cases h10 : kind = 10
  · subst h10
    go_enter Try.func37, Try.ntmps37
    go_wp2_with fail
    go_ret2
    exact ⟨rfl, rfl⟩
  by_cases h16 : kind = 16
  · subst h16
    go_enter Try.func37, Try.ntmps37
    go_wp2_with fail
    go_ret2
    exact ⟨rfl, rfl⟩
  by_cases h2 : kind = 2
  · subst h2
    go_enter Try.func37, Try.ntmps37
    go_wp2_with fail
    go_ret2
    exact ⟨rfl, rfl⟩
  by_cases h8 : kind = 8
  · subst h8
    go_enter Try.func37, Try.ntmps37
    go_wp2_with fail
    go_ret2
    exact ⟨rfl, rfl⟩
  have hm : markL kind = none := by unfold markL; rw [if_neg h16, if_neg h2, if_neg h8, if_neg h10]
  rw [hm]
  clear hm
  go_enter Try.func37, Try.ntmps37
  go_wp2_with fail
  go_ret2
  exact ⟨rfl, rfl⟩

set_option maxRecDepth 100000 in
set_option maxHeartbeats 400000 in
theorem show_good (v K W : Nat) (m : List UInt8) (hm : markL (K : Int) = some m) (hml : m.length ≤ 1) (hK2 : 2 ≤ K) (hK : K ≤ 16) (hv : v ≤ 18446744073709551615) (hW : W ≤ 64) (w : World) : Calls Try.prog 23 #[.int .u64 v, .int .i64 K, .int .i64 W] w fun e w' => e = .returned (.tuple #[.string ⟨(m ++ padS W (digS K 65 v [])).toArray⟩, .int .i64 0]) ∧ Below w.heap.size w w' := by
  have HM := hidD (markOf_any K w)
  rw [hm] at HM
  have HD := hidD (fun (w : World) => digitsOf_any v K hv hK2 hK w)
  have hl : (digS K 65 v []).length ≤ 65 := digS_lenP 65 v []
  clear hm
  generalize digS K 65 v [] = D at *
  have HR := hidD (fun (c : Nat) (w : World) (hc : c ≤ 255) => Try.strings_Repeat ⟨#[48]⟩ c w (by omega) (by show 1 * c ≤ _; omega))
  have hmx : max (0 : Int) ((W : Int) - (D.length : Int)) = ((W - D.length : Nat) : Int) := by omega
  have hwk : IntKind.u64.wrap (K : Int) = (K : Int) := by rw [IntKind.wrap_u64]; omega
  have hr64 : W - D.length ≤ 64 := by omega
  have hWi : (W : Int) ≤ 64 := by omega
  have hW0 : ¬ (W : Int) < 0 := by omega
  have hW6 : ¬ (64 : Int) < W := by omega
  have HP : Hid (padS W D = List.replicate (W - D.length) 48 ++ D) := rfl
  have HRP := hidD (rep_one 48 (W - D.length))
  have hrl : (List.replicate (W - D.length) (48 : UInt8)).length ≤ 64 := by simp; omega
  generalize padS W D = PD at *
  generalize List.replicate (W - D.length) (48 : UInt8) = RR at *
  generalize W - D.length = cn at *
  have HRc : Hid (∀ w : World, Calls Try.prog 39 #[.string ⟨#[48]⟩, .int .i64 cn] w fun e w' => e = .returned (.string ⟨RR.toArray⟩) ∧ Below w.heap.size w w') := fun w => by
    have h := HR.out cn w (by omega)
    rw [← HRP.out]
    exact h
  clear HR HRP
  go_enter Try.func23, Try.ntmps23
  go_wp2_with (first
    | (go_at_call 37; refine HM.out.mono ?_; rintro e w' ⟨rfl, hw⟩; rw [hw]; clear hw w')
    | (go_at_call 38; refine (HD.out _).mono ?_; rintro e w1 ⟨rfl, hb1⟩)
    | (go_at_call 39; refine (HRc.out _).mono ?_; rintro e w2 ⟨rfl, hb2⟩))
  go_ret2
  refine ⟨?_, hb1.trans (hb2.mono hb1.size)⟩
  rw [HP.out, ← List.append_assoc]
  refine ret_show ?_
  rw [ba_append, ba_append]

set_option maxRecDepth 100000 in
set_option maxHeartbeats 400000 in
theorem show_bad1 (v : Nat) (kind width : Int) (hk : (markL kind).isSome = true) (hw : width < 0 ∨ 64 < width) (w : World) : Calls Try.prog 23 #[.int .u64 v, .int .i64 kind, .int .i64 width] w fun e w' => e = .returned (.tuple #[.string ⟨#[]⟩, .int .i64 1]) ∧ Below w.heap.size w w' := by
  have HM := hidD (markOf_any kind w)
  rw [hk] at HM
  generalize (markL kind).getD [] = m at *
  clear hk
  by_cases h1 : width < 0
  · go_enter Try.func23, Try.ntmps23
    go_wp2_with (go_at_call 37; refine HM.out.mono ?_; rintro e w' ⟨rfl, hw⟩; rw [hw]; clear hw w')
    go_ret2
    exact ⟨rfl, Below.refl _ _⟩
  · have h2 : 64 < width := by omega
    go_enter Try.func23, Try.ntmps23
    go_wp2_with (go_at_call 37; refine HM.out.mono ?_; rintro e w' ⟨rfl, hw⟩; rw [hw]; clear hw w')
    go_ret2
    exact ⟨rfl, Below.refl _ _⟩
set_option maxRecDepth 100000 in
set_option maxHeartbeats 400000 in
theorem show_bad2 (v : Nat) (kind width : Int) (hk : (markL kind).isSome = false) (w : World) : Calls Try.prog 23 #[.int .u64 v, .int .i64 kind, .int .i64 width] w fun e w' => e = .returned (.tuple #[.string ⟨#[]⟩, .int .i64 1]) ∧ Below w.heap.size w w' := by
  have HM := hidD (markOf_any kind w)
  rw [hk] at HM
  generalize (markL kind).getD [] = m at *
  clear hk
  go_enter Try.func23, Try.ntmps23
  go_wp2_with (go_at_call 37; refine HM.out.mono ?_; rintro e w' ⟨rfl, hw⟩; rw [hw]; clear hw w')
  go_ret2
  exact ⟨rfl, Below.refl _ _⟩

theorem show_any (v : Nat) (kind width : Int) (hv : v ≤ 18446744073709551615) (w : World) : Calls Try.prog 23 #[.int .u64 v, .int .i64 kind, .int .i64 width] w fun e w' => e = .returned (.tuple #[.string ⟨(showS v kind width).1.toArray⟩, .int .i64 (showS v kind width).2]) ∧ Below w.heap.size w w' := by
  by_cases hk : (markL kind).isSome = true
  · obtain ⟨m, hm⟩ := Option.isSome_iff_exists.1 hk
    by_cases hw : width < 0 ∨ 64 < width
    · rw [showP_bad hm hw]
      exact show_bad1 v kind width hk hw w
    · rw [showP_eq hm hw]
      obtain ⟨W, rfl⟩ : ∃ W : Nat, width = W := ⟨width.toNat, by omega⟩
      have hm' := hm
      unfold markL at hm'
      have hW : W ≤ 64 := by omega
      split at hm'
      · rename_i h; subst h; cases hm'
        exact show_good v 16 W [36] hm (by simp) (by decide) (by decide) hv hW w
      · split at hm'
        · rename_i h; subst h; cases hm'
          exact show_good v 2 W [37] hm (by simp) (by decide) (by decide) hv hW w
        · split at hm'
          · rename_i h; subst h; cases hm'
            exact show_good v 8 W [64] hm (by simp) (by decide) (by decide) hv hW w
          · split at hm'
            · rename_i h; subst h; cases hm'
              exact show_good v 10 W [] hm (by simp) (by decide) (by decide) hv hW w
            · cases hm'
  · have hk' : (markL kind).isSome = false := by simpa using hk
    rw [showP_none (by simpa using hk)]
    exact show_bad2 v kind width hk' w
end Go.Proofs.Ytmmlmpcalhfigaa
