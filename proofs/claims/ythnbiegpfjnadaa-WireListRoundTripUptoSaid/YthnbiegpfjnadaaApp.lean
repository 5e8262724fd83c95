/-
  Appending to a slice that is full.
-/
import Derived.Test.YthnbiegpfjnadaaLst
namespace Go.Proofs.Ythnbiegpfjnadaa
open Go.RowKit

theorem run_append_zero {P : Program} (w : World) (t ty e : TypeId) (i : TypeInfo) (ht : P.underlying t = some (.slice e)) (hi : P.info? e = some i) (ad : Addr) (n k : Nat) (hk : n ≤ k) (A : Option Addr) (c : Nat) :
    (Builtin.append_ #[t, t] ty #[.slice (some ad) n k, .slice A 0 c]).run P w = .ok (.slice (some ad) n k) w := by
  cases A with
  | none => simp [Builtin.append_, run_underlying ht, sizeOf, typeInfo, hi, Builtin.lenOf, Builtin.firstCells, hk, storeCells]
  | some a =>
    have hf := run_firstCells_some (P := P) w i.size 0 a 0 c [] (by simp) (by simp)
    simp [Builtin.append_, run_underlying ht, sizeOf, typeInfo, hi, Builtin.lenOf, hf, hk, storeCells]

/-- 'append(b[:n:n], c...)', bytes. -/
theorem push_full {w : World} {ops : Array Oper} {rest : List Oper} {o : Oper} {a : Act} {Q : Exit → Act → World → Prop} (hgd : o.guard = none) (sl x : Operand)
    (ho : o.op = .call { callee := .builtin .append, args := #[sl, x], argTypes := #[28, 28] })
    (l1 l2 : List UInt8) (n m : Nat) (hn : n = l1.length) (hm : m = l2.length) (hpos : 0 < n) (B B' : Nat) (A A' : Option Addr) (c : Nat) (hs : a.eval sl = .slice A n n) (hx : a.eval x = .slice A' m c)
    (hr : Rds w B A (l1.map bv)) (hr' : Rds w B' A' (l2.map bv)) (hlen : n + m ≤ 140737488355328)
    (h : ∀ A'' c'' w', Rds w' w'.heap.size A'' ((l1 ++ l2).map bv) → n + m ≤ c'' → Below w.heap.size w w' → wpList Try.prog ops Q rest (a.put o.dst (.slice A'' (n + m) c'')) w') :
    wpList Try.prog ops Q (o :: rest) a w := by
  obtain ⟨i0, hi, hz0, hz1, hz2⟩ := info_parts infoByte
  have hne : l1.map bv ≠ [] := by
    intro h0
    have := congrArg List.length h0
    rw [List.length_map, List.length_nil] at this
    omega
  obtain ⟨ad, rfl, hab, hcell⟩ := hr hne
  have hlt : ad.block < w.heap.size := by
    have h0 : 0 < (l1.map bv).length := List.length_pos_iff.2 hne
    have := World.block_lt_of_cell? w _ (hcell 0 _ (List.getElem?_eq_getElem h0))
    rwa [add_block] at this
  refine wpList_plain hgd fun K hK => ?_
  unfold Oper.wp execOp
  rcases Nat.eq_zero_or_pos m with h0 | h0
  · have hl2 : l2 = [] := List.eq_nil_of_length_eq_zero (by omega)
    subst hl2 h0
    have hrun := run_append_zero (P := Try.prog) w 28 o.type 5 i0 Try.underlying28 hi ad n n (Nat.le_refl _) A' c
    simp only [ho, resolve, invoke, builtin, Sem.run_bind, Sem.run_pure, Result.andThen_ok, List.map_toArray, List.map_cons, List.map_nil, hs, hx, hrun]
    refine hK _ _ (h (some ad) n w ?_ (Nat.le_refl _) (Below.refl _ _))
    rw [List.append_nil]
    exact fun _ => ⟨ad, rfl, hlt, hcell⟩
  · have hne' : l2.map bv ≠ [] := by
      intro hh
      have := congrArg List.length hh
      rw [List.length_map, List.length_nil] at this
      omega
    obtain ⟨ad', rfl, hab', hcell'⟩ := hr' hne'
    have hrun := run_append_grow (P := Try.prog) w 28 o.type 5 i0 (.int .u8 0) Try.underlying28 hi hz0 ad n n (l1.map bv) (by rw [List.length_map, hz1]; omega) hcell ad' m c (l2.map bv) (by rw [List.length_map, hz1]; omega) hcell' (by omega) (by omega)
      (growslice_fits (by omega) (by rw [hz2]; omega))
    simp only [ho, resolve, invoke, builtin, Sem.run_bind, Sem.run_pure, Result.andThen_ok, List.map_toArray, List.map_cons, List.map_nil, hs, hx, hrun]
    refine hK _ _ (h (some ⟨w.heap.size, 0, none⟩) _ _ ?_ (grownCap_ge _ _ _ _) ((Below.refl _ _).drew.alloc (Nat.le_refl _) _))
    intro _
    refine ⟨_, rfl, by simp, fun j u hu => ?_⟩
    have hadd : (⟨w.heap.size, 0, none⟩ : Addr).add j = ⟨w.heap.size, j, none⟩ := by unfold Addr.add; split <;> simp_all
    have hj : j < ((l1 ++ l2).map bv).length := by
      rcases Nat.lt_or_ge j ((l1 ++ l2).map bv).length with hj | hj
      · exact hj
      · rw [List.getElem?_eq_none hj] at hu; cases hu
    rw [hadd]
    refine (cell_of_row _ _ j _ 5 (0, 0) (heap_alloc_new w.drew _)).trans ?_
    rw [← hu, List.map_append, Array.getElem?_append_left (by simpa using hj)]
    simp
end Go.Proofs.Ythnbiegpfjnadaa
