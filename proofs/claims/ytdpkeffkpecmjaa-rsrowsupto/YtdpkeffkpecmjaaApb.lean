/- Bytes that are put to one's own row: where the row lies behind it. -/
import Derived.Test.YtdpkeffkpecmjaaApd
namespace Go.Proofs.Ytdpkeffkpecmjaa
open Go.RowKit
set_option linter.unusedVariables false

theorem wpList_append_byB {ops : Array Oper} {rest : List Oper} {o : Oper} {a : Act} {Q : Exit → Act → World → Prop} {w : World} (hgd : o.guard = none) (s x : Operand)
    (ho : o.op = .call { callee := .builtin .append, args := #[s, x], argTypes := #[22, 22] }) (base : Nat) (v : Value) (n : Nat) (xs : List Value)
    (hs : a.eval s = v) (hown : w.ownsRow base 5 1 v n xs) (sl : Value) (bs : List UInt8) (hx : a.eval x = sl) (hsrc : ByAt w sl bs) (hpos : 0 < bs.length) (hl : n + bs.length ≤ 140737488355328) (hbase : base ≤ w.heap.size)
    (h : ∀ v' w', w'.ownsRow base 5 1 v' (n + bs.length) (xs ++ bs.map encB) → w.grownBy w' v.ownBlock → (v'.ownBlock = v.ownBlock ∨ v'.ownBlock = some w.heap.size) → wpList Try.prog ops Q rest (a.put o.dst v') w') : wpList Try.prog ops Q (o :: rest) a w := by
  obtain ⟨i0, hi, hz0, hz1, hz2⟩ := info_parts Try.info5
  rcases hsrc with ⟨rfl, _⟩ | ⟨g, off, cap, rfl, hg, hc⟩
  · simp at hpos
  · have hnews : ∀ j u, (bs.map encB)[j]? = some u → w.cell? ((⟨g, off, none⟩ : Addr).add j) = some u := fun j u hu => by
      rw [List.getElem?_map] at hu
      cases hj : bs[j]? with
      | none => rw [hj] at hu; cases hu
      | some y =>
        rw [hj] at hu
        have hlt := (List.getElem?_eq_some_iff.1 hj).1
        rw [Go.WideShapes.add_plain, hc j hlt, List.getD_eq_getElem?_getD, hj]
        exact hu
    obtain ⟨v', w', hr, h2, h3, h4⟩ := run_append_own (P := Try.prog) w base 22 o.type 5 i0 (.int .u8 0) 1 1 Try.underlying22 hi hz0 hz1 hz2 rfl (by decide) v n xs hown ⟨g, off, none⟩ bs.length cap (bs.map encB) (by simp) hnews (bytes_oneCell bs) (by unfold maxLen; omega) (by omega) hbase
    have hblk : v'.ownBlock = v.ownBlock ∨ v'.ownBlock = some w.heap.size := by
      rcases hown.2 with ⟨rfl, rfl⟩ | ⟨g0, c0, cur, rfl, hbg, hg0, hnc, hcm, hcs, htake⟩
      · have hr2 := run_append_nil (P := Try.prog) w 22 o.type 5 i0 (.int .u8 0) Try.underlying22 hi hz0 ⟨g, off, none⟩ bs.length cap (bs.map encB) (by rw [hz1]; simp) hnews hpos (by omega) (by rw [hz2]; omega)
        rw [hr] at hr2
        cases hr2
        exact .inr rfl
      · by_cases hroom : n + bs.length ≤ c0
        · have hr2 := run_append_room (P := Try.prog) w 22 o.type 5 i0 Try.underlying22 hi g0 n c0 cur hg0 ⟨g, off, none⟩ bs.length cap (bs.map encB) (by rw [hz1]; simp) hnews (bytes_oneCell bs) hroom (by rw [hz1, hcs, List.length_map]; omega)
          rw [hr] at hr2
          cases hr2
          exact .inl rfl
        · have hr2 := run_append_grow (P := Try.prog) w 22 o.type 5 i0 (.int .u8 0) Try.underlying22 hi hz0 ⟨g0, 0, none⟩ n c0 xs (by rw [hz1]; exact hown.1) (hown.cells (g := g0) rfl) ⟨g, off, none⟩ bs.length cap (bs.map encB) (by rw [hz1]; simp) hnews (by omega) (by omega) (growslice_fits (by omega) (by rw [hz2]; omega))
          rw [hr] at hr2
          cases hr2
          exact .inr rfl
    refine wpList_plain hgd fun K hK => ?_
    unfold Oper.wp execOp
    simp only [ho, resolve, invoke, builtin, Sem.run_bind, Sem.run_pure, Result.andThen_ok, List.map_toArray, List.map_cons, List.map_nil, hs, hx, hr]
    exact hK _ _ (h v' w' (by simpa using h2) h3 hblk)
end Go.Proofs.Ytdpkeffkpecmjaa
