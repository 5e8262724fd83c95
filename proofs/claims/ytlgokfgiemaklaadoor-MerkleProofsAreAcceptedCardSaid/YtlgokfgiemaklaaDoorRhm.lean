/-
  Contracts of stage 2: the reference's Of and block, for a Sum that keeps its contract. Contracts of stage 2: the reference's Hmac, for a Sum and a block that keep their contracts. Contracts of stage 2: the reference's Mac, for a Sum and a block that keep their contracts. Contracts of stage 2: the reference's Expand, for a Sum and a block that keep their contracts. A row of bytes that a conversion made, whose frozen stretch begins at its capacity, and bytes that are appended to it. Contracts of stage 2: the reference's block of a key, for a Sum that keeps its contract.
-/
import Derived.Test.YtlgokfgiemaklaaDoorSht
import Derived.Lib.FrozenHead
namespace Go.Proofs.YtlgokfgiemaklaaDoor
set_option linter.unusedVariables false
open Go.RowKit

set_option maxRecDepth 100000 in
set_option maxHeartbeats 1000000 in
theorem refOf_of (HS : RefSum) (tag : Int) (parts : List (List UInt8)) (A : Option Addr) (c : Nat) (w : World) (hr : Rds w w.heap.size A (parts.map sv)) (hl : parts.length ≤ 1000000) (hf : (Sha.message parts).length ≤ 900000) (ht : Tab 3 w) :
    Calls Tryd.prog 40 #[.int .i64 tag, .slice A parts.length c] w fun e w' => e = .returned (av (Sha.hashOf tag parts)) ∧ Below w.heap.size w w' := by
  obtain ⟨W1, hW1⟩ : ∃ W1, W1 = w.alloc (.cells (bz 16).toArray 31) := ⟨_, rfl⟩
  have hB1 : Below w.heap.size w W1 := by rw [hW1]; exact (Below.refl _ _).alloc (Nat.le_refl _) _
  have hR1 : Hid (Blk W1 w.heap.size (bz 16) 31) := by show Blk _ _ _ _; rw [hW1]; exact Blk.new _ _ _
  have hT := Lib.hid (ht.on hB1)
  have HI := Lib.hid (input_any tag parts A c W1 ((hr.below hB1).more hB1.size) hl (by omega))
  have hil : (Sha.input tag parts).length ≤ 1000000 := by simp only [Sha.input, List.length_cons]; omega
  have HC := Lib.hid (fun A c W hr hc hT => short_of HS (Sha.input tag parts) A c W hr hc hil hT)
  have hDl : (Sha.hashOf tag parts).length = 16 := by unfold Sha.hashOf; rw [List.length_take, Sha.sum_len]; rfl
  have hDe : (Sha.sum (Sha.input tag parts)).take 16 = Sha.hashOf tag parts := rfl
  rw [hDe] at HC
  clear hDe
  generalize Sha.hashOf tag parts = D at HC hDl ⊢
  generalize Sha.input tag parts = i1 at HI HC hil
  have hcl : (D.map bv).length = 16 := by rw [List.length_map, hDl]
  have hsz := Lib.hid (size_dig16 _ hcl)
  have hDo := av_one D
  unfold av at HC ⊢
  clear hr hl hf ht HS hil hDl
  go_enter Tryd.func40, Tryd.ntmps40
  go_wp2_with fail
  generalize hg : w.alloc _ = Wg
  have hgW : Wg = W1 := by rw [← hg, hW1]; rfl
  clear hg hW1
  subst hgW
  refine HI.out.mono ?_
  intro e w2 h2
  obtain ⟨A2, c2, rfl, _, _, hn2, hr2, hb2⟩ := NewEnd.slice h2
  clear h2
  have hB2 : Below w.heap.size w w2 := hB1.trans (hb2.mono hB1.size)
  have hR2 := Lib.hid (hR1.out.below hb2 hR1.out.lt)
  have hT2 := hT.out.on hb2
  clear hb2 hB1 hR1 hT
  go_wp2_with fail
  refine (HC.out _ _ _ hr2 hn2 hT2).mono ?_
  rintro e w3 ⟨rfl, hb3⟩
  have hB3 : Below w.heap.size w w3 := hB2.trans (hb3.mono hB2.size)
  have hR3 := hR2.out.below hb3 hR2.out.lt
  clear hb3 hB2 hR2 hr2 hn2 hT2
  go_wp2_with (refine wpList_row_store rfl 31 _ _ rfl (D.map bv) rfl rfl hR3 hsz.out (by rw [hcl]; rfl) hDo ?_; intro w6 hW6 ho6)
  exact bodyPost_ret (ret_blk rfl _ w6 (g := w.heap.size) rfl hW6.out (.array 16 5) arr_dig rfl hsz.out) rfl ⟨rfl, hB3.trans (ho6.below (Nat.le_refl _))⟩
end Go.Proofs.YtlgokfgiemaklaaDoor

namespace Go.Proofs.YtlgokfgiemaklaaDoor
set_option linter.unusedVariables false
open Go.RowKit
end Go.Proofs.YtlgokfgiemaklaaDoor

namespace Go.Proofs.YtlgokfgiemaklaaDoor
set_option linter.unusedVariables false
open Go.RowKit
end Go.Proofs.YtlgokfgiemaklaaDoor

namespace Go.Proofs.YtlgokfgiemaklaaDoor
set_option linter.unusedVariables false
open Go.RowKit
end Go.Proofs.YtlgokfgiemaklaaDoor

namespace Go.Proofs.YtlgokfgiemaklaaDoor
set_option linter.unusedVariables false
open Go.RowKit

/-- One cell is written, the row's frozen stretch being elsewhere. -/
theorem run_storeCells_oneG (P : Program) (w : World) (g o : Nat) (t : TypeId) (fz : Nat × Nat) (u : Value) (cur : Array Value) (hg : w.heap[g]? = some (.cells cur t fz)) (hfz : o < fz.1 ∨ fz.2 ≤ o) (hi : o < cur.size) (h1 : u.oneCell' = true) :
    (storeCells ⟨g, o, none⟩ [u] 0).run P w = .ok () (w.setRow g (cur.setIfInBounds o u)) := by
  have hcell : w.cell? ⟨g, o, none⟩ = some cur[o] := by simp [World.cell?, hg, hi]
  have hfro : w.frozen? ⟨g, o, none⟩ = false := by
    obtain ⟨lo, hi'⟩ := fz
    simp only [World.frozen?, hg, Bool.and_eq_false_iff, decide_eq_false_iff_not]
    simp only at hfz
    omega
  have hadd : (⟨g, o, none⟩ : Addr).add 0 = ⟨g, o, none⟩ := by simp [Addr.add]
  have hst : (store ((⟨g, o, none⟩ : Addr).add 0) u).run P w = .ok () (w.setRow g (cur.setIfInBounds o u)) := by
    rw [hadd, run_store P w _ u _ h1, hcell]
    simp [hfro, setCell_eq_setRow w g o cur t fz u hg]
  simp only [storeCells, Sem.run_bind, hst, Result.andThen_ok]
  rfl

theorem run_append_roomG {P : Program} (w : World) (t ty e : TypeId) (i : TypeInfo) (ht : P.underlying t = some (.slice e)) (hi : P.info? e = some i) (hs1 : i.size = 1)
    (g sLen sCap : Nat) (cur : Array Value) (fz : Nat × Nat) (hg : w.heap[g]? = some (.cells cur e fz)) (hfz : sLen < fz.1 ∨ fz.2 ≤ sLen) (a : Addr) (c : Nat) (u : Value) (hnews : ∀ j v, [u][j]? = some v → w.cell? (a.add j) = some v) (h1 : u.oneCell' = true)
    (hroom : sLen + 1 ≤ sCap) (hfit : sLen + 1 ≤ cur.size) :
    (Builtin.append_ #[t, t] ty #[.slice (some ⟨g, 0, none⟩) sLen sCap, .slice (some a) 1 c]).run P w =
      .ok (.slice (some ⟨g, 0, none⟩) (sLen + 1) sCap) (w.setRow g (cur.setIfInBounds sLen u)) := by
  have hf := run_firstCells_some (P := P) w i.size 1 a 1 c [u] (by simp [hs1]) hnews
  have hst := run_storeCells_oneG P w g sLen e fz u cur hg hfz hfit h1
  rw [hs1] at hf
  simp [Builtin.append_, run_underlying ht, sizeOf, typeInfo, hi, hs1, Builtin.lenOf, hroom, hf, Addr.add_lit, hst]

/-- The bytes l are a row of the call's own, from block 'base' on; what is frozen of it lies behind its capacity. -/
def OwnG (w : World) (base : Nat) (v : Value) (l : List UInt8) : Prop :=
  ∃ g cap cur fz, v = .slice (some ⟨g, 0, none⟩) l.length cap ∧ base ≤ g ∧ w.heap[g]? = some (.cells cur 5 fz) ∧ (fz.2 = 0 ∨ cap ≤ fz.1) ∧ l.length ≤ cap ∧ cap ≤ maxLen ∧ cur.size = cap ∧ cur.toList.take l.length = l.map bv

theorem OwnG.form {w : World} {base : Nat} {v : Value} {l : List UInt8} (h : OwnG w base v l) : ∃ g c, v = .slice (some ⟨g, 0, none⟩) l.length c ∧ Rds w w.heap.size (some ⟨g, 0, none⟩) (l.map bv) := by
  obtain ⟨g, cap, cur, fz, rfl, _, hg, _, _, _, _, ht⟩ := h
  refine ⟨g, cap, rfl, fun _ => ⟨_, rfl, (Array.getElem?_eq_some_iff.1 hg).1, fun j u hu => ?_⟩⟩
  rw [Addr.add_mid, Nat.zero_add, cell_of_row w g j cur _ fz hg]
  rw [← ht, List.getElem?_take] at hu
  split at hu
  · simpa using hu
  · cases hu

theorem OwnG.below {w w' : World} {base : Nat} {v : Value} {l : List UInt8} (h : OwnG w base v l) (hb : Below w.heap.size w w') : OwnG w' base v l := by
  obtain ⟨g, cap, cur, fz, hv, hbg, hg, hr⟩ := h
  exact ⟨g, cap, cur, fz, hv, hbg, (hb.block g (Array.getElem?_eq_some_iff.1 hg).1).trans hg, hr⟩

theorem run_push_byteG {w : World} (base : Nat) (ty : TypeId) (v : Value) (l : List UInt8) (b : UInt8) (hown : OwnG w base v l) (ad : Addr) (hnews : ∀ j u, [bv b][j]? = some u → w.cell? (ad.add j) = some u) (hlen : l.length ≤ 140737488355300) (hbase : base ≤ w.heap.size) :
    ∃ v' w', (Builtin.append_ #[75, 75] ty #[v, .slice (some ad) 1 1]).run Tryd.prog w = .ok v' w' ∧ OwnG w' base v' (l ++ [b]) ∧ Below base w w' := by
  obtain ⟨i0, hi, hz0, hz1, hz2⟩ := info_parts infoByte
  obtain ⟨g, cap, cur, fz, rfl, hbg, hg, hfz, hnc, hcm, hcs, htake⟩ := id hown
  have hll : (l ++ [b]).length = l.length + 1 := by simp
  by_cases hroom : l.length + 1 ≤ cap
  · have hr := run_append_roomG (P := Tryd.prog) w 75 ty 5 i0 Tryd.underlying75 hi hz1 g l.length cap cur fz hg (by omega) ad 1 (bv b) hnews rfl hroom (by omega)
    refine ⟨_, _, hr, ⟨g, cap, _, fz, by rw [hll], hbg, setRow_heap w g cur _ _ _ hg, hfz, by omega, hcm, by simpa using hcs, ?_⟩, (Only.setRow w g _).below hbg⟩
    rw [hll, Array.toList_setIfInBounds, List.take_add_one, List.take_set_of_le (Nat.le_refl _), htake, List.getElem?_set_self (by simp; omega), List.map_append]
    rfl
  · have holds : ∀ j u, (l.map bv)[j]? = some u → w.cell? ((⟨g, 0, none⟩ : Addr).add j) = some u := by
      intro j u hu
      obtain ⟨g', c', he, hr⟩ := hown.form
      cases he
      obtain ⟨ad', h1, _, h2⟩ := hr.look hu
      cases h1
      exact h2
    have hr := run_append_grow (P := Tryd.prog) w 75 ty 5 i0 (.int .u8 0) Tryd.underlying75 hi hz0 ⟨g, 0, none⟩ l.length cap (l.map bv) (by rw [hz1]; simp) holds ad 1 1 [bv b] (by rw [hz1]; rfl) hnews (by omega) (by omega) (growslice_fits (by omega) (by rw [hz2]; omega))
    have hge := grownCap_ge w (l.length + 1) cap 5
    have hcm2 := grownCap_le_maxLen w (l.length + 1) cap 5 (by unfold maxLen; omega)
    refine ⟨_, _, hr, ⟨w.heap.size, _, _, (0, 0), by rw [hll], hbase, heap_alloc_new w.drew _, .inl rfl, by omega, hcm2, ?_, ?_⟩, ((Below.refl _ _).drew).alloc hbase _⟩
    · have hz1' : (Value.int IntKind.u8 0).cells.size = 1 := rfl
      simp only [Array.size_append, List.size_toArray, size_zeroCells, hz1', List.length_map, List.length_singleton]
      omega
    · simp only [Array.toList_append]
      rw [hll, List.take_append_of_le_length (by simp)]
      simp
      exact List.take_of_length_le (by simp)

/-- 'b = append(b, x)', b such a row: the walk's step. -/
theorem push_byteG {w0 : World} {ops : Array Oper} {rest : List Oper} {o : Oper} {a : Act} {Q : Exit → Act → World → Prop} (hgd : o.guard = none) (s x : Operand)
    (ho : o.op = .call { callee := .builtin .append, args := #[s, x], argTypes := #[75, 75] })
    (base : Nat) (v : Value) (l : List UInt8) (b : UInt8) (u : Value) (hu : u = bv b) (hs : a.eval s = v) (hx : a.eval x = .slice (some ⟨w0.heap.size, 0, none⟩) 1 1)
    (hown : OwnG w0 base v l) (hlen : l.length ≤ 140737488355300) (hbase : base ≤ w0.heap.size)
    (h : ∀ v' w', OwnG w' base v' (l ++ [b]) → Below base w0 w' → wpList Tryd.prog ops Q rest (a.put o.dst v') w') :
    wpList Tryd.prog ops Q (o :: rest) a (w0.alloc (.cells #[u] 5)) := by
  subst hu
  refine wpList_plain hgd fun K hK => ?_
  obtain ⟨v', w', hr, h2, h3⟩ := run_push_byteG (w := w0.alloc (.cells #[bv b] 5)) base o.type v l b (hown.below ((Below.refl _ _).alloc (Nat.le_refl _) _)) ⟨w0.heap.size, 0, none⟩ (cell_one_new _ _ _) hlen (by simp; omega)
  unfold Oper.wp execOp
  simp only [ho, resolve, invoke, builtin, Sem.run_bind, Sem.run_pure, Result.andThen_ok, List.map_toArray, List.map_cons, List.map_nil, hs, hx, hr]
  exact hK _ _ (h v' w' h2 (((Below.refl _ _).alloc hbase _).trans h3))

/-- '[]byte(s)': such a row. -/
theorem wpList_bytes_ofG {ops : Array Oper} {rest : List Oper} {op : Oper} {a : Act} {w : World} {Q : Exit → Act → World → Prop} (hgd : op.guard = none) (x : Operand) (ho : op.op = .convert 9 75 x) (l : List UInt8) (S : ByteArray) (hS : S = bs l) (hx : a.eval x = .string S) (hlen : l.length ≤ 140737488355300)
    (h : ∀ v' w', OwnG w' w.heap.size v' l → Below w.heap.size w w' → wpList Tryd.prog ops Q rest (a.put op.dst v') w') :
    wpList Tryd.prog ops Q (op :: rest) a w := by
  subst hS
  refine wpList_plain hgd fun K hK => ?_
  have hrun := run_bytes_of_string (P := Tryd.prog) w 9 75 5 (bs l) Tryd.underlying9 Tryd.underlying75 Tryd.underlying5
  unfold Oper.wp execOp
  simp only [ho, hx, Sem.run_bind, Sem.run_pure, hrun, Result.andThen_ok]
  have hge := grownCap_ge w (bs l).size 0 5
  have hcm2 := grownCap_le_maxLen w (bs l).size 0 5 (by rw [bs_size]; unfold maxLen; omega)
  have e : (bs l).data.map (fun b => Value.int .u8 b.toNat) = (l.map bv).toArray := by
    unfold bs
    apply Array.ext'
    simp
    exact fun a _ => rfl
  have hsz : (bytesRow (bs l) (grownCap w (bs l).size 0 5)).size = grownCap w (bs l).size 0 5 := by
    unfold bytesRow
    rw [e, bs_size] at *
    simp
    omega
  refine hK _ _ (h _ _ ⟨w.heap.size, _, _, _, by rw [bs_size], Nat.le_refl _, heap_alloc_new w.drew _, .inr (by rw [hsz]; exact Nat.le_refl _), by rw [bs_size] at *; exact hge, hcm2, hsz, ?_⟩ (((Below.refl _ _).drew).alloc (Nat.le_refl _) _))
  unfold bytesRow
  rw [e]
  simp
end Go.Proofs.YtlgokfgiemaklaaDoor

namespace Go.Proofs.YtlgokfgiemaklaaDoor
set_option linter.unusedVariables false
set_option linter.unusedSimpArgs false
open Go.RowKit
end Go.Proofs.YtlgokfgiemaklaaDoor
