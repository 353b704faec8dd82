/- What looks of the statements answers where the document's shelf is the program's: true. -/
import Derived.Test.YtnjjpahpaeblfaaRefAdd
import Derived.Test.YtnjjpahpaeblfaaQuietB
import Derived.Test.YtnjjpahpaeblfaaLike
import Derived.Test.YtnjjpahpaeblfaaUPlain
import Derived.Test.YtnjjpahpaeblfaaUnderC
import Derived.Test.YtnjjpahpaeblfaaGet
namespace Go.Proofs.Ytnjjpahpaeblfaa
open Go.RowKit Go.Maps Go.Sort
set_option linter.unusedVariables false

theorem Same.foundNt {S : List Nt} {T : List Ne} (h : Same S T) {x : List UInt8} {k : Nat} (hf : foundB T x k = true) : k < T.length ∧ (T.getD k ne0).n = getNt S x := by
  unfold foundB at hf
  rw [Bool.and_eq_true, decide_eq_true_eq, beq_iff_eq] at hf
  refine ⟨hf.1, ?_⟩
  rw [← hf.2, nmAt, getNt_mem h.nodup (h.at_ hf.1).1]

theorem under_eq {S : List Nt} {x : List UInt8} {U V : List (List UInt8)} (hU : IsUnder S x U) (hV : IsUnder S x V) : V.mergeSort leB = U.mergeSort leB ∧ V.length = U.length := by
  have hp : V.Perm U := (List.perm_ext_iff_of_nodup hV.1 hU.1).2 (fun y => under_mem hV hU y)
  exact ⟨merge_perm hp, hp.length_eq⟩
theorem strsOk_sort {U : List (List UInt8)} (h : StrsOk U) : StrsOk (U.mergeSort leB) :=
  ⟨by simpa using h.1, fun x hx => h.2 x ((List.mergeSort_perm U leB).mem_iff.1 hx)⟩

/-- Two slices that read as the same texts: Texts tells so. -/
theorem texts_same (o : List (List UInt8)) (ho : StrsOk o) (a1 a2 : Option Addr) (c1 c2 n : Nat) (hn : o.length = n) (w : World) (h1 : StrsAt w (.slice a1 n c1) o) (h2 : StrsAt w (.slice a2 n c2) o) :
    Calls Try.prog 26 #[.slice a1 n c1, .slice a2 n c2] w fun e w' => e = .returned (.bool true) ∧ Below w.heap.size w w' := by
  subst hn
  have := texts_any o o ho ho a1 a2 c1 c2 w h1 h2
  simpa using this

theorem strs_of_sort {w : World} {base n : Nat} {v : Value} {U : List (List UInt8)} (h : w.ownsRow base 9 1 v n ((U.mergeSort leB).map encStr)) (hn : n = (U.mergeSort leB).length) : ∃ a c, v = .slice a n c ∧ StrsAt w (.slice a n c) (U.mergeSort leB) := by
  subst hn
  obtain ⟨a, c, rfl⟩ := row_shape h
  exact ⟨a, c, rfl, StrsAt.of_row h⟩

set_option maxRecDepth 100000 in
set_option maxHeartbeats 4000000 in
theorem looks_any (x : List UInt8) (hx : x.length ≤ maxLen) (w : World) (p b : Nat) (F : Nat → Prop) (S : List Nt) (D : DataW Value) (h : SH w p b F S D) (r : Nat) (T : List Ne) (hr : RS w r T) (hS : Same S T) (hF : Few S) (h64 : T.length ≤ 64) :
    Calls Try.prog 19 #[.pointer (some ⟨p, 0, none⟩), .pointer (some ⟨r, 0, none⟩), .string ⟨x.toArray⟩] w fun e w' => e = .returned (.bool true) ∧ Below w.heap.size w w' := by
  have HG := hidR (get_any x hx w p b F S D h)
  have HFI : Hid (∀ w', Below w.heap.size w w' → Calls Try.prog 33 #[.pointer (some ⟨r, 0, none⟩), .string ⟨x.toArray⟩] w' fun e w2 => ∃ k, FindAt T x k ∧ e = .returned (.tuple #[.int .i64 k, .bool (foundB T x k)]) ∧ Below w'.heap.size w' w2) := fun w' hb => find_any x w' r T (hr.below hb (Nat.le_refl _))
  have HO : Hid (∀ w', Below w.heap.size w w' → Calls Try.prog 24 #[.pointer (some ⟨p, 0, none⟩)] w' fun e w2 => ∃ v, e = .returned (.tuple #[v, .int .i64 (orderOf S).2]) ∧ w2.ownsRow w'.heap.size 9 1 v (orderOf S).1.length ((orderOf S).1.map encStr) ∧ Below w'.heap.size w' w2) := fun w' hb => order_any w' p b F S D (h.below hb (Nat.le_refl _))
  have HRO : Hid (∀ w', Below w.heap.size w w' → Calls Try.prog 35 #[.pointer (some ⟨r, 0, none⟩)] w' fun e w2 => ∃ v, e = .returned (.tuple #[v, .int .i64 (orderOf S).2]) ∧ w2.ownsRow w'.heap.size 9 1 v (orderOf S).1.length ((orderOf S).1.map encStr) ∧ Below w'.heap.size w' w2) := fun w' hb => refOrder_any w' r T (hr.below hb (Nat.le_refl _)) S hS h64
  have HU : Hid (∀ w', Below w.heap.size w w' → Calls Try.prog 25 #[.pointer (some ⟨p, 0, none⟩), .string ⟨x.toArray⟩] w' fun e w2 => ∃ v U, e = .returned v ∧ IsUnder S x U ∧ U.length ≤ 512 ∧ StrsOk U ∧ w2.ownsRow w'.heap.size 9 1 v U.length ((U.mergeSort leB).map encStr) ∧ Below w'.heap.size w' w2) := fun w' hb => under_any x hx w' p b F S D (h.below hb (Nat.le_refl _))
  have HRU : Hid (∀ w', Below w.heap.size w w' → Calls Try.prog 36 #[.pointer (some ⟨r, 0, none⟩), .string ⟨x.toArray⟩] w' fun e w2 => ∃ v U, e = .returned v ∧ IsUnder S x U ∧ U.length ≤ 512 ∧ w2.ownsRow w'.heap.size 9 1 v U.length ((U.mergeSort leB).map encStr) ∧ Below w'.heap.size w' w2) := fun w' hb => refUnder_any x w' r T (hr.below hb (Nat.le_refl _)) S hS hF
  have HSM := hidR hS
  have HOKN := hidR (h.lookG x hx).1
  have HOO := hidR (order_ok h)
  obtain ⟨a, cap, hcell, hN⟩ := hr
  have hrl : r < w.heap.size := World.block_lt_of_cell? w _ hcell
  have HN := hidR hN
  have HC : Hid (∀ w', Below w.heap.size w w' → w'.cell? ⟨r, 0, none⟩ = some (.slice a T.length cap)) := fun w' hb => (hb.cell (p := ⟨r, 0, none⟩) hrl).trans hcell
  clear h hS hF hN hcell
  generalize (orderOf S).1 = o at *
  generalize (orderOf S).2 = oe at *
  have heq : (oe == oe) = true := by simp
  obtain ⟨sb, hsb⟩ : ∃ sb, sb = (S.map Nt.name).contains x := ⟨_, rfl⟩
  obtain ⟨m, hm⟩ : ∃ m, m = getNt S x := ⟨_, rfl⟩
  have HSB := hidR hsb
  have HM := hidR hm
  have HOUT : Hid (sb = false → m = nt0) := fun h => by rw [hm]; exact getNt_out (by rw [← List.contains_iff_mem, ← hsb, h]; simp)
  rw [← hsb, ← hm] at HG
  rw [← hm] at HOKN
  clear hsb hm
  go_enter Try.func19, Try.ntmps19
  go_wp2_with fail
  refine HG.out.mono ?_
  rintro e w1 ⟨a1, c1, rfl, hr1, hb1⟩
  have HB1 := hidR hb1
  have hsz1 := hb1.size
  have HR1 := hidR (StrsAt.of_row hr1)
  have HBA : Hid (∀ o, Below w.heap.size w (w1.alloc o)) := fun o => HB1.out.alloc hsz1 o
  clear hr1 hb1
  go_wp2_with fail
  refine (HFI.out _ (HBA.out _)).mono ?_
  rintro e w2 ⟨kf, hkf, rfl, hb2⟩
  have HB2 : Hid (Below w.heap.size w w2) := (HBA.out _).trans (hb2.mono (by simp; omega))
  have HFB := hidR (HSM.out.found hkf)
  have HFN := hidR (fun h => HSM.out.foundNt (x := x) (k := kf) h)
  generalize foundB T x kf = fb at *
  rw [← HSB.out] at HFB
  have hfs := HFB.out
  subst hfs
  have hsz2 := hb2.size
  simp at hsz2
  have hw0 : w2.cell? ⟨w1.heap.size, 0, none⟩ = some (.string ⟨m.name.toArray⟩) := ((bcell hb2).1 _ 0 (by simp)).trans (by simp)
  have hw1 : w2.cell? ⟨w1.heap.size, 1, none⟩ = some (.int .i64 m.words) := ((bcell hb2).1 _ 1 (by simp)).trans (by simp)
  have hw2 : w2.cell? ⟨w1.heap.size, 2, none⟩ = some (.int .u32 m.sum) := ((bcell hb2).1 _ 2 (by simp)).trans (by simp)
  have hw3 : w2.cell? ⟨w1.heap.size, 3, none⟩ = some (.slice a1 m.leans.length c1) := ((bcell hb2).1 _ 3 (by simp)).trans (by simp)
  have HST1 : Hid (∀ w', Below w2.heap.size w2 w' → StrsAt w' (.slice a1 m.leans.length c1) m.leans) := fun w' hb => ((HR1.out.below ((Below.refl w1.heap.size w1).alloc (Nat.le_refl _) _) (Nat.le_refl _)).below hb2 (Nat.le_refl _)).below hb (Nat.le_refl _)
  have hlt1 : w1.heap.size < w2.heap.size := by omega
  clear hb2 hkf
  have HBI : Hid (∀ i : BW w2, Below w.heap.size w i.v) := fun i => HB2.out.trans (i.below.mono HB2.out.size)
  cases fb with
  | true =>
    obtain ⟨hkl, hne⟩ := HFN.out rfl
    rw [← HM.out] at hne
    rcases HN.out.1 with ⟨h0, _⟩ | ⟨g, off, cap', hsl, hg, hcl⟩
    · rw [h0] at hkl; exact absurd hkl (by simp)
    rw [Value.slice.injEq] at hsl
    obtain ⟨rfl, hq1, hq2⟩ := hsl
    clear hq1 hq2
    have hok := HN.out.2.2 _ (mem_getD1 hkl)
    obtain ⟨d0, d1, d2, d3⟩ := (hcl kf hkl).below HB2.out hg
    have hg2 : g < w2.heap.size := Nat.lt_of_lt_of_le hg HB2.out.size
    have HST2 := hidR hok.at_
    rw [hne] at d0 d1 d2 d3 HST2
    have hr2 : r < w2.heap.size := Nat.lt_of_lt_of_le hrl HB2.out.size
    have hki : (kf : Int) < T.length := by omega
    have hki0 : (0 : Int) ≤ (kf : Int) := by omega
    clear hcl hok hne
    generalize (T.getD kf ne0).a = ua at *
    generalize (T.getD kf ne0).cap = uc at *
    have HLK : Hid (∀ w', Below w2.heap.size w2 w' → Calls Try.prog 34 #[.agg #[.string ⟨m.name.toArray⟩, .int .i64 m.words, .int .u32 m.sum, .slice a1 m.leans.length c1], .agg #[.string ⟨m.name.toArray⟩, .int .i64 m.words, .int .u32 m.sum, .slice ua m.leans.length uc]] w' fun e w3 => e = .returned (.bool true) ∧ Below w'.heap.size w' w3) := fun w' hb => like_same m HOKN.out _ _ _ _ w' (HST1.out w' hb) (HST2.out.below (HB2.out.trans (hb.mono HB2.out.size)) (Nat.le_refl _))
    have c0 : ∀ i : BW w2, i.v.cell? ⟨w1.heap.size, 0, none⟩ = some (.string ⟨m.name.toArray⟩) := fun i => (i.cell hlt1).trans hw0
    have c1' : ∀ i : BW w2, i.v.cell? ⟨w1.heap.size, 1, none⟩ = some (.int .i64 m.words) := fun i => (i.cell hlt1).trans hw1
    have c2 : ∀ i : BW w2, i.v.cell? ⟨w1.heap.size, 2, none⟩ = some (.int .u32 m.sum) := fun i => (i.cell hlt1).trans hw2
    have c3 : ∀ i : BW w2, i.v.cell? ⟨w1.heap.size, 3, none⟩ = some (.slice a1 m.leans.length c1) := fun i => (i.cell hlt1).trans hw3
    have c4 : ∀ i : BW w2, i.v.cell? ⟨r, 0, none⟩ = some (.slice (some ⟨g, off, none⟩) T.length cap) := fun i => HC.out _ (HBI.out i)
    have c5 : ∀ i : BW w2, i.v.cell? ⟨g, off + kf * 4, none⟩ = some (.string ⟨m.name.toArray⟩) := fun i => (i.cell hg2).trans d0
    have c6 : ∀ i : BW w2, i.v.cell? ⟨g, off + kf * 4 + 1, none⟩ = some (.int .i64 m.words) := fun i => (i.cell hg2).trans d1
    have c7 : ∀ i : BW w2, i.v.cell? ⟨g, off + kf * 4 + 2, none⟩ = some (.int .u32 m.sum) := fun i => (i.cell hg2).trans d2
    have c8 : ∀ i : BW w2, i.v.cell? ⟨g, off + kf * 4 + 3, none⟩ = some (.slice ua m.leans.length uc) := fun i => (i.cell hg2).trans d3
    clear hw0 hw1 hw2 hw3 d0 d1 d2 d3
    go_wp2_with fail
    refine wp_region_below (by kernel_rfl) (by kernel_rfl) ?_
    repeat (go_big_quiet_step ((go_at_call 34; exact Calls.below_of (HLK.out _ (BW.below _)))))
    refine wpQuiet_nil ?_
    intro i
    have HBQ : Hid (Below w.heap.size w i.v) := HBI.out i
    clear c0 c1' c2 c3 c4 c5 c6 c7 c8
    generalize i.v = w3 at *
    have hsz3 := HBQ.out.size
    go_wp2_with fail
    refine (HO.out _ HBQ.out).mono ?_
    rintro e w4 ⟨v4, rfl, hr4, hb4⟩
    obtain ⟨a4, c4, rfl⟩ := row_shape hr4
    have HB4 : Hid (Below w.heap.size w w4) := HBQ.out.trans (hb4.mono hsz3)
    have HS4 := hidR (StrsAt.of_row hr4)
    have hsz4 := HB4.out.size
    clear hr4 hb4
    go_wp2_with fail
    refine (HRO.out _ HB4.out).mono ?_
    rintro e w5 ⟨v5, rfl, hr5, hb5⟩
    obtain ⟨a5, c5, rfl⟩ := row_shape hr5
    have HB5 : Hid (Below w.heap.size w w5) := HB4.out.trans (hb5.mono hsz4)
    have HS5 := hidR (HS4.out.below hb5 (Nat.le_refl _))
    have HT5 := hidR (StrsAt.of_row hr5)
    have hsz5 := HB5.out.size
    clear hr5 hb5
    go_wp2_with fail
    refine (texts_same o HOO.out a4 a5 c4 c5 _ rfl w5 HS5.out HT5.out).mono ?_
    rintro e w6 ⟨rfl, hb6⟩
    have HB6 : Hid (Below w.heap.size w w6) := HB5.out.trans (hb6.mono hsz5)
    have hsz6 := HB6.out.size
    clear hb6
    go_wp2_with fail
    refine (HU.out _ HB6.out).mono ?_
    rintro e w7 ⟨v7, U, rfl, hU, hU5, hUok, hr7, hb7⟩
    have HB7 : Hid (Below w.heap.size w w7) := HB6.out.trans (hb7.mono hsz6)
    have HUI := hidR hU
    obtain ⟨a7, c7, rfl, hs7⟩ := strs_of_sort hr7 (by simp)
    have HS7 := hidR hs7
    have hsz7 := HB7.out.size
    clear hr7 hb7 hU hs7
    go_wp2_with fail
    refine (HRU.out _ HB7.out).mono ?_
    rintro e w8 ⟨v8, V, rfl, hV, hV5, hr8, hb8⟩
    have HB8 : Hid (Below w.heap.size w w8) := HB7.out.trans (hb8.mono hsz7)
    obtain ⟨hVU, hVL⟩ := under_eq HUI.out hV
    rw [hVU, hVL] at hr8
    obtain ⟨a8, c8, rfl, hs8⟩ := strs_of_sort hr8 (by simp)
    have HS8 := hidR (HS7.out.below hb8 (Nat.le_refl _))
    have HT8 := hidR hs8
    have hsz8 := HB8.out.size
    have HTX := hidR (texts_same (U.mergeSort leB) (strsOk_sort hUok) a7 a8 c7 c8 U.length (by simp) w8 HS8.out HT8.out)
    clear hr8 hb8 hs8 hV hVU hVL
    go_wp2_with fail
    refine HTX.out.mono ?_
    rintro e w9 ⟨rfl, hb9⟩
    have HB9 : Hid (Below w.heap.size w w9) := HB8.out.trans (hb9.mono hsz8)
    clear hb9
    go_wp2
    go_ret
    exact ⟨rfl, HB9.out⟩
  | false =>
    have hm0 := HOUT.out rfl
    subst hm0
    have HLK : Hid (∀ w', Below w2.heap.size w2 w' → Calls Try.prog 34 #[.agg #[.string ⟨#[]⟩, .int .i64 0, .int .u32 0, .slice a1 0 c1], .agg #[.string ⟨#[]⟩, .int .i64 0, .int .u32 0, .slice none 0 0]] w' fun e w3 => e = .returned (.bool true) ∧ Below w'.heap.size w' w3) := fun w' hb => like_same nt0 ok0 _ _ _ _ w' (HST1.out w' hb) (.inl ⟨rfl, none, 0, rfl, fun _ => rfl⟩)
    have c0 : ∀ i : BW w2, i.v.cell? ⟨w1.heap.size, 0, none⟩ = some (.string ⟨#[]⟩) := fun i => (i.cell hlt1).trans hw0
    have c1' : ∀ i : BW w2, i.v.cell? ⟨w1.heap.size, 1, none⟩ = some (.int .i64 0) := fun i => (i.cell hlt1).trans hw1
    have c2 : ∀ i : BW w2, i.v.cell? ⟨w1.heap.size, 2, none⟩ = some (.int .u32 0) := fun i => (i.cell hlt1).trans hw2
    have c3 : ∀ i : BW w2, i.v.cell? ⟨w1.heap.size, 3, none⟩ = some (.slice a1 0 c1) := fun i => (i.cell hlt1).trans hw3
    clear hw0 hw1 hw2 hw3
    go_wp2_with fail
    refine wp_region_below (by kernel_rfl) (by kernel_rfl) ?_
    repeat (go_big_quiet_step ((go_at_call 34; exact Calls.below_of (HLK.out _ (BW.below _)))))
    refine wpQuiet_nil ?_
    intro i
    have HBQ : Hid (Below w.heap.size w i.v) := HBI.out i
    clear c0 c1' c2 c3
    generalize i.v = w3 at *
    have hsz3 := HBQ.out.size
    go_wp2_with fail
    refine (HO.out _ HBQ.out).mono ?_
    rintro e w4 ⟨v4, rfl, hr4, hb4⟩
    obtain ⟨a4, c4, rfl⟩ := row_shape hr4
    have HB4 : Hid (Below w.heap.size w w4) := HBQ.out.trans (hb4.mono hsz3)
    have HS4 := hidR (StrsAt.of_row hr4)
    have hsz4 := HB4.out.size
    clear hr4 hb4
    go_wp2_with fail
    refine (HRO.out _ HB4.out).mono ?_
    rintro e w5 ⟨v5, rfl, hr5, hb5⟩
    obtain ⟨a5, c5, rfl⟩ := row_shape hr5
    have HB5 : Hid (Below w.heap.size w w5) := HB4.out.trans (hb5.mono hsz4)
    have HS5 := hidR (HS4.out.below hb5 (Nat.le_refl _))
    have HT5 := hidR (StrsAt.of_row hr5)
    have hsz5 := HB5.out.size
    clear hr5 hb5
    go_wp2_with fail
    refine (texts_same o HOO.out a4 a5 c4 c5 _ rfl w5 HS5.out HT5.out).mono ?_
    rintro e w6 ⟨rfl, hb6⟩
    have HB6 : Hid (Below w.heap.size w w6) := HB5.out.trans (hb6.mono hsz5)
    have hsz6 := HB6.out.size
    clear hb6
    go_wp2_with fail
    refine (HU.out _ HB6.out).mono ?_
    rintro e w7 ⟨v7, U, rfl, hU, hU5, hUok, hr7, hb7⟩
    have HB7 : Hid (Below w.heap.size w w7) := HB6.out.trans (hb7.mono hsz6)
    have HUI := hidR hU
    obtain ⟨a7, c7, rfl, hs7⟩ := strs_of_sort hr7 (by simp)
    have HS7 := hidR hs7
    have hsz7 := HB7.out.size
    clear hr7 hb7 hU hs7
    go_wp2_with fail
    refine (HRU.out _ HB7.out).mono ?_
    rintro e w8 ⟨v8, V, rfl, hV, hV5, hr8, hb8⟩
    have HB8 : Hid (Below w.heap.size w w8) := HB7.out.trans (hb8.mono hsz7)
    obtain ⟨hVU, hVL⟩ := under_eq HUI.out hV
    rw [hVU, hVL] at hr8
    obtain ⟨a8, c8, rfl, hs8⟩ := strs_of_sort hr8 (by simp)
    have HS8 := hidR (HS7.out.below hb8 (Nat.le_refl _))
    have HT8 := hidR hs8
    have hsz8 := HB8.out.size
    have HTX := hidR (texts_same (U.mergeSort leB) (strsOk_sort hUok) a7 a8 c7 c8 U.length (by simp) w8 HS8.out HT8.out)
    clear hr8 hb8 hs8 hV hVU hVL
    go_wp2_with fail
    refine HTX.out.mono ?_
    rintro e w9 ⟨rfl, hb9⟩
    have HB9 : Hid (Below w.heap.size w w9) := HB8.out.trans (hb9.mono hsz8)
    clear hb9
    go_wp2
    go_ret
    exact ⟨rfl, HB9.out⟩
end Go.Proofs.Ytnjjpahpaeblfaa
