/-
  Contracts of stage 2: digests of hashes, parts that are added to a stream. A struct of two rows is built; a copy out of a row. Contracts of stage 2: keys.
-/
import Derived.Test.YtlgokfgiemaklaaDoorSsh
import Derived.Laws.Cover3
namespace Go.Proofs.YtlgokfgiemaklaaDoor
set_option linter.unusedVariables false
open Go.RowKit

theorem size_dig : (Tryd.prog.info? 31).map (·.size) = some 16 := by kernel_rfl
theorem arr_dig : Tryd.prog.underlying 31 = some (.array 16 5) := by kernel_rfl

section
variable {P : Program} {ops : Array Oper} {Q : Exit → Act → World → Prop} {L : Nat}
theorem load_plain {o : Oper} {a : Act} (hgd : o.guard = none) (ty : TypeId) (y : Operand) (hop : o.op = .load ty y) (g off : Nat) (hy : a.eval y = .pointer (some ⟨g, off, none⟩)) (cs : List Value) (d : TypeDesc)
    (hu : P.underlying ty = some d) (hd : d.isRow = true) (hi : (P.info? ty).map (·.size) = some cs.length) (W : World) (hc : W.rangeAt g off cs) : (execOp a.eval o).run P W = .ok (.value (.agg cs.toArray)) W := by
  unfold execOp
  simp only [hop, hy, Instr.loadAt, Instr.sureAddr, Sem.run_bind, Sem.run_pure, Result.andThen_ok, run_loadVar_mid W g off ty cs d hc hu hd hi]
/-- In a plan: a row is loaded. -/
theorem wpPlanL_load {i : Nat} {o : Oper} {rest : List (Bool × Nat)} {a : Act} {w : World} (ho : ops[i]? = some o) (hgd : o.guard = none) (ty : TypeId) (y : Operand) (hop : o.op = .load ty y) (g off : Nat) (hy : a.eval y = .pointer (some ⟨g, off, none⟩)) (cs : List Value) (d : TypeDesc)
    (hu : P.underlying ty = some d) (hd : d.isRow = true) (hi : (P.info? ty).map (·.size) = some cs.length) (hc : ∀ x : ExtOf w, x.world.rangeAt g off cs)
    (h : wpPlanL P ops Q L rest (a.put o.dst (.agg cs.toArray)) w) : wpPlanL P ops Q L ((true, i) :: rest) a w := by
  unfold wpPlanL
  simp only [ho]
  rw [if_pos (by simp [Region.wanted, hgd])]
  exact ⟨_, fun x => load_plain hgd ty y hop g off hy cs d hu hd hi x.world (hc x), h⟩
theorem wpTree_load {i : Nat} {o : Oper} {t : Tree} {a : Act} {w : World} (ho : ops[i]? = some o) (hgd : o.guard = none) (ty : TypeId) (y : Operand) (hop : o.op = .load ty y) (g off : Nat) (hy : a.eval y = .pointer (some ⟨g, off, none⟩)) (cs : List Value) (d : TypeDesc)
    (hu : P.underlying ty = some d) (hd : d.isRow = true) (hi : (P.info? ty).map (·.size) = some cs.length) (hc : ∀ x : ExtOf w, x.world.rangeAt g off cs)
    (h : wpTree P ops Q L t (a.put o.dst (.agg cs.toArray)) w) : wpTree P ops Q L (.plain i t) a w := by
  unfold wpTree
  simp only [ho]
  rw [if_pos (by simp [Region.wanted, hgd])]
  exact ⟨_, fun x => load_plain hgd ty y hop g off hy cs d hu hd hi x.world (hc x), h⟩
end

set_option maxRecDepth 100000 in
set_option maxHeartbeats 1000000 in
theorem digest_any (Z : List UInt8) (w : World) (hZ : Z.length = 32) : Calls Tryd.prog 61 #[av Z] w fun e w' => e = .returned (av (Z.take 16)) ∧ Below w.heap.size w w' := by
  have hcut : Hid ((((Z.map bv).drop 0).take ((Z.take 16).map bv).length) = (Z.take 16).map bv) := by
    show _ = _
    rw [List.drop_zero, List.length_map, List.length_take, hZ, List.map_take]
    rfl
  have hl16 : ((Z.take 16).map bv).length = 16 := by rw [List.length_map, List.length_take, hZ]; rfl
  have hsz : Hid ((Tryd.prog.info? 31).map (·.size) = some ((Z.take 16).map bv).length) := by show _ = _; rw [hl16]; exact size_dig
  have hB := Lib.hid (fun o => (Blk.new w (Z.map bv) 98).alloc o)
  have hR := Lib.hid ((Blk.new (w.alloc (.cells (Z.map bv).toArray 98)) (bz 16) 31).at (g2 := w.heap.size + 1) (by simp))
  have hbel : Hid (∀ o, Below w.heap.size w ((w.alloc (.cells (Z.map bv).toArray 98)).alloc o)) := fun o => ((Below.refl _ _).alloc (by simp) _).alloc (by simp) _
  have hSV : Hid (Value.slice (some ⟨w.heap.size, 0, none⟩) 16 32 = .slice (some (if 32 = 0 then (⟨w.heap.size, 0, none⟩ : Addr) else (⟨w.heap.size, 0, none⟩ : Addr).add 0)) (16 - 0) (32 - 0)) := rfl
  have hat := fun W => run_arrayAt (P := Tryd.prog) W 31 5 16 (some ⟨w.heap.size, 0, none⟩) 16 32 arr_dig (Nat.le_refl _)
  have hone := av_one (Z.take 16)
  have hl16' : ((Z.take 16).map bv).length = (bz 16).length := hl16
  unfold av
  generalize (Z.take 16).map bv = C at hcut hl16 hsz hone hl16' ⊢
  go_enter Tryd.func61, Tryd.ntmps61
  go_wp2_with (first | (refine wpList_slice_arr rfl 98 _ _ _ rfl ⟨w.heap.size, 0, none⟩ rfl 32 5 Tryd.underlying98 size_u8 0 16 (.inl ⟨rfl, rfl⟩) (.inr ⟨_, _, rfl, rfl⟩) (Nat.zero_le _) (by decide) _ hSV.out ?_) | (refine wpList_blk_load rfl 31 _ rfl 0 rfl (hB.out _) C hcut.out (.array 16 5) arr_dig rfl hsz.out ?_) | (refine wpList_row_store rfl 31 _ _ rfl C rfl rfl hR.out hsz.out hl16' hone ?_; intro w3 hW3 ho3))
  exact bodyPost_ret (ret_blk rfl _ w3 (g := w.heap.size + 1) rfl hW3.out (.array 16 5) arr_dig rfl hsz.out) rfl ⟨rfl, (hbel.out _).trans (ho3.below (by omega))⟩

theorem msg_take (parts : List (List UInt8)) (k : Nat) (x : List UInt8) (h : parts[k]? = some x) : Sha.message (parts.take (k + 1)) = Sha.message (parts.take k) ++ Wm.encBytes x := by
  unfold Sha.message
  exact Wm.take_flat Wm.encBytes parts k x h
theorem msg_take_len (parts : List (List UInt8)) (k : Nat) : (Sha.message (parts.take k)).length ≤ (Sha.message parts).length := Wm.flat_take_len Wm.encBytes parts k

set_option maxRecDepth 100000 in
set_option maxHeartbeats 1000000 in
theorem addParts_any (m : List UInt8) (parts : List (List UInt8)) (v : Value) (A : Option Addr) (c : Nat) (w : World) (hv : SVal m v) (hr : Rds w w.heap.size A (parts.map sv)) (hn : parts.length ≤ 1000000000) (hlen : m.length + (Sha.message parts).length ≤ 1000000000) (ht : Tab 2 w) :
    Calls Tryd.prog 62 #[v, .slice A parts.length c] w fun e w' => ∃ v', (e = .returned v' ∧ SVal (m ++ Sha.message parts) v') ∧ Below w.heap.size w w' := by
  have hT := Lib.hid ht
  obtain ⟨L0, rfl, hL0, hL1⟩ := hv.cells
  have hv' := Lib.hid hv
  have hz := Lib.hid zero_str
  have hzl := zero_len
  clear hv ht
  go_enter Tryd.func62, Tryd.ntmps62
  go_wp2_with fail
  go_loopw [9] (fun i wr => ∃ (k : Nat) (L : List Value), k ≤ parts.length ∧ i = .int .i64 k ∧ SVal (m ++ Sha.message (parts.take k)) (.agg L.toArray) ∧ L.length = 73 ∧ (∀ u ∈ L, u.oneCell' = true) ∧ Blk wr w.heap.size L 103 ∧ Blk wr (w.heap.size + 1) (scells (List.replicate 8 0) (List.replicate 64 0) 0) 103 ∧ Below w.heap.size w wr) (fun i _ => parts.length - (intOf i).toNat)
  case atStart => exact ⟨0, L0, by omega, rfl, by simpa [Sha.message] using hv'.out, hL0, hL1, (Blk.new _ _ _).alloc _, (by rw [hz.out]; exact (Blk.new _ _ _).at (by simp)), ((Below.refl _ _).alloc (by simp) _).alloc (by simp) _⟩
  case round =>
    clear hv' hL0 hL1
    obtain ⟨k, L, hk, rfl, hv, hL, hL1, hB0, hR0, hbw⟩ := hrel
    have hB := Lib.hid hB0
    have hR := Lib.hid hR0
    have hTw := hT.out.on hbw
    have hv' := Lib.hid hv
    have hL' := Lib.hid hL1
    clear hB0 hR0 hv hL1
    have hsz : Hid ((Tryd.prog.info? 103).map (·.size) = some L.length) := by show _ = _; rw [hL]; exact size_str
    by_cases hlt : k < parts.length
    · obtain ⟨x, hx⟩ : ∃ x, parts[k]? = some x := ⟨_, List.getElem?_eq_getElem hlt⟩
      obtain ⟨ad, rfl, hab, hcell⟩ := (hr.below hbw).look (k := k) (u := sv x) (by rw [List.getElem?_map, hx]; rfl)
      have hmt := msg_take parts k x hx
      have hml := msg_take_len parts (k + 1)
      rw [hmt, List.length_append] at hml
      have hel := Wm.enc_len x.length
      have hel2 : x.length ≤ (Wm.encBytes x).length := by unfold Wm.encBytes; simp
      have HB := Lib.hid (fun W => bytes_any x W (by omega))
      have HA := Lib.hid (fun W v (h : SVal (m ++ Sha.message (parts.take k)) v) (hT : Tab 2 W) => add_v (m ++ Sha.message (parts.take k)) (Wm.encBytes x) v W h (by rw [List.length_append]; omega) hT)
      have hmt' := Lib.hid hmt
      clear hmt hml hel hel2 hx
      unfold sv at hcell HA HB
      generalize bs x = S at hcell HB
      go_wp2_with fail
      refine wp_region_planL 5 [(true, 0), (true, 1), (false, 2), (true, 3), (false, 4), (false, 5)] (by kernel_rfl) (by decide) (by kernel_rfl) (by kernel_rfl) (by kernel_rfl) (by decide) (by intro c a d v w h; cases d <;> exact h) ?_
      change wpPlanL _ _ _ _ _ _ wr.drew
      refine wpPlanL_load rfl rfl 103 _ rfl w.heap.size 0 rfl L _ Tryd.underlying103 rfl hsz.out (fun x => ((hB.out.below (x.below (Nat.le_refl _)) hB.out.lt).range 0 L (take_all0 L))) ?_
      iterate 1 (refine wpPlanL_plain rfl (fun K hK => ?_); go_simp; refine hK _ ?_; clear hK K)
      refine wpPlanL_call rfl (fun K hK => ?_)
      go_wp2_with fail
      refine (HB.out _).mono ?_
      rintro e w2 h2
      obtain ⟨A2, c2, rfl, _, _, _, hrd2, hb2⟩ := h2.slice
      clear h2
      go_wp2_with fail
      refine planPostL_normal ⟨.inr hb2, hK _ _ ?_⟩
      clear hK K
      have hb2 := drewBelow hb2
      have hc := fun x : ExtOf w2 => run_bytes_bs (P := Tryd.prog) x.world 75 9 5 Tryd.underlying75 Tryd.underlying5 Tryd.underlying9 c2 (hrd2.below x.ext)
      iterate 1 (refine wpPlanL_plain rfl (fun K hK => ?_); go_simp; refine hK _ ?_; clear hK K)
      refine wpPlanL_call rfl (fun K hK => ?_)
      go_wp2_with fail
      refine (HA.out _ _ hv'.out (hTw.on hb2)).mono ?_
      rintro e w3 ⟨v3, ⟨rfl, hv3⟩, hb3⟩
      go_wp2_with fail
      refine planPostL_normal ⟨.inr hb3, hK _ _ ?_⟩
      clear hK K hc
      obtain ⟨L3, rfl, hL3, hL31⟩ := hv3.cells
      have hb13 : Below wr.heap.size wr w3 := hb2.trans (hb3.mono hb2.size)
      have hB3 := hB.out.below hb13 hB.out.lt
      have hR3 := hR.out.below hb13 hR.out.lt
      have hw3 : Below w.heap.size w w3 := hbw.trans (hb13.mono hbw.size)
      refine wpPlanL_call rfl (fun K hK => ?_)
      refine wpList_row_store rfl 103 _ _ rfl L3 rfl rfl hB3 (by rw [hL3]; exact size_str) (by rw [hL3, hL]) hL31 ?_
      intro w4 hW4 ho4
      refine wpList_end (planPostL_normal ⟨.inl rfl, hK _ _ ?_⟩)
      clear hK K
      refine wpPlanL_nil ?_
      have hv3' := Lib.hid hv3
      have hL31' := Lib.hid hL31
      clear hv3 hL31
      go_wp2_with fail
      go_roundw
      case rel => exact ⟨k + 1, L3, by omega, by go_num, by rw [hmt'.out, ← List.append_assoc]; exact hv3'.out, hL3, hL31'.out, hW4.out, hR3.only ho4 (by omega), hw3.trans (ho4.below (by omega))⟩
      case measure => simp [intOf]; omega
    · have hkk : parts.take k = parts := List.take_of_length_le (by omega)
      have hv2 := hv'.out
      rw [hkk] at hv2
      have hv2' := Lib.hid hv2
      have t : ¬ (k : Int) < parts.length := by omega
      have hB2 := hB.out
      have hR2 := hR.out
      clear hkk hv2 hlt hB hR hv'
      go_wp2_with (first | (refine wpList_blk_load rfl 103 _ rfl 0 rfl hB2 L (take_all0 _) _ Tryd.underlying103 rfl hsz.out ?_) | (refine wpList_row_store rfl 103 _ _ rfl L rfl rfl hR2 hsz.out (by rw [hL, hzl]) hL'.out ?_; intro w3 hW3 ho3))
      refine bodyPost_ret (ret_blk rfl _ w3 (g := w.heap.size + 1) rfl hW3.out _ Tryd.underlying103 rfl hsz.out) rfl ?_
      exact ⟨⟨_, rfl, hv2'.out⟩, hbw.trans (ho3.below (by omega))⟩
end Go.Proofs.YtlgokfgiemaklaaDoor

namespace Go.Proofs.YtlgokfgiemaklaaDoor
set_option linter.unusedVariables false
set_option linter.unusedSimpArgs false
open Go.RowKit

theorem splice_cons {α : Type} (Z : List α) (o : Nat) (v : α) (l : List α) (h : o + (l.length + 1) ≤ Z.length) : splice (Z.set o v) (o + 1) l = splice Z o (v :: l) := by
  have h1 : (Z.set o v).take (o + 1) = Z.take o ++ [v] := by
    rw [List.set_eq_take_append_cons_drop, if_pos (by omega)]
    have : (Z.take o).length = o := by rw [List.length_take]; omega
    rw [List.take_append, this, show o + 1 - o = 1 by omega, List.take_of_length_le (by omega)]
    rfl
  unfold splice
  rw [h1, List.drop_set_of_lt (by omega), List.length_cons, show o + 1 + l.length = o + (l.length + 1) by omega, List.append_assoc]
  rfl
theorem fold_list (off : Nat) : ∀ (l : List Value) (k : Nat) (z : Array Value), off + k + l.length ≤ z.size → ((l.zipIdx k).foldl (fun cs x => cs.setIfInBounds (off + x.2) x.1) z).toList = splice z.toList (off + k) l
  | [], k, z, _ => by unfold splice; simp
  | v :: l, k, z, h => by
    rw [List.zipIdx_cons, List.foldl_cons, fold_list off l (k + 1) _ (by rw [Array.size_setIfInBounds]; simp only [List.length_cons] at h; omega), Array.toList_setIfInBounds, ← Nat.add_assoc]
    exact splice_cons _ _ _ _ (by rw [Array.length_toList]; simp only [List.length_cons] at h; omega)
theorem fold_arr (off : Nat) (l : List Value) (z : Array Value) (h : off + l.length ≤ z.size) : (l.toArray.zipIdx.foldl (fun cs x => cs.setIfInBounds (off + x.2) x.1) z) = (splice z.toList off l).toArray := by
  apply Array.ext'
  have := fold_list off l 0 z (by simpa using h)
  rw [← Array.foldl_toList]
  simpa using this
theorem fill_two (z : Array Value) (n : Nat) (place : Nat → Option (Nat × Nat)) (h0 : place 0 = some (0, n)) (h1 : place 1 = some (n, n)) (a b : List Value) (ha : a.length = n) (hb : b.length = n) (hz : z.size = n + n) :
    Instr.fill place z [(0, .agg a.toArray), (1, .agg b.toArray)] = some (a ++ b).toArray := by
  have e1 := fold_arr 0 a z (by omega)
  have hzl : z.toList.length = n + n := by rw [Array.length_toList, hz]
  have hs : (splice z.toList 0 a).length = n + n := by rw [length_splice z.toList 0 a (by rw [hzl, ha]; omega), hzl]
  have e2 := fold_arr n b (splice z.toList 0 a).toArray (by rw [List.size_toArray, hs]; omega)
  have ea : (Value.agg a.toArray).cells = a.toArray := rfl
  have eb : (Value.agg b.toArray).cells = b.toArray := rfl
  have hfin : splice (splice z.toList 0 a) n b = a ++ b := by
    unfold splice
    have hd : (a ++ z.toList.drop (0 + a.length)).drop (n + b.length) = [] := List.drop_eq_nil_of_le (by rw [List.length_append, List.length_drop, hzl, ha, hb]; omega)
    rw [List.take_zero, List.nil_append, List.take_append_of_le_length (by omega), List.take_of_length_le (by omega), hd, List.append_nil]
  rw [List.toList_toArray, hfin] at e2
  simp only [Instr.fill, h0, h1, ea, eb]
  rw [if_neg (by simp [ha, hz])]
  rw [show (fun cs (x : Value × Nat) => match x with | (c, j) => cs.setIfInBounds (0 + j) c) = (fun (cs : Array Value) (x : Value × Nat) => cs.setIfInBounds (0 + x.2) x.1) from rfl, e1]
  rw [if_neg (by rw [List.size_toArray, List.size_toArray, hs]; simp [hb])]
  rw [show (fun cs (x : Value × Nat) => match x with | (c, j) => cs.setIfInBounds (n + j) c) = (fun (cs : Array Value) (x : Value × Nat) => cs.setIfInBounds (n + x.2) x.1) from rfl, e2]

theorem run_build_two {P : Program} (w : World) (t : TypeId) (f0 f1 : Field) (n : Nat) (z : Value) (hz : ∀ w, (zeroValue t).run P w = .ok z w) (hzs : z.cells.size = n + n) (hu : P.underlying t = some (.struct #[f0, f1])) (o0 : f0.offset = 0) (o1 : f1.offset = n)
    (s0 : (P.info? f0.type).map (·.size) = some n) (s1 : (P.info? f1.type).map (·.size) = some n) (a b : List Value) (ha : a.length = n) (hb : b.length = n) :
    (Instr.build t #[(0, .agg a.toArray), (1, .agg b.toArray)]).run P w = .ok (.agg (a ++ b).toArray) w := by
  cases hq0 : P.info? f0.type with
  | none => simp [hq0] at s0
  | some i0 =>
    cases hq1 : P.info? f1.type with
    | none => simp [hq1] at s1
    | some i1 =>
      have e0 : i0.size = n := by simpa [hq0] using s0
      have e1 : i1.size = n := by simpa [hq1] using s1
      have hf := fill_two z.cells n ([(0, n), (n, n)][·]?) rfl rfl a b ha hb hzs
      simp [Instr.build, hz, run_underlying hu, sizeOf, typeInfo, hq0, hq1, e0, e1, o0, o1, hf]
end Go.Proofs.YtlgokfgiemaklaaDoor

namespace Go.Proofs.YtlgokfgiemaklaaDoor
set_option linter.unusedVariables false
open Go.RowKit

theorem splice_at {α : Type} (L Y : List α) (k : Nat) (h : k ≤ Y.length) : (splice L 0 (Y.take k))[k]? = L[k]? := by
  have h1 : (Y.take k).length = k := by rw [List.length_take]; omega
  unfold splice
  rw [List.take_zero, List.nil_append, List.getElem?_append_right (by omega), h1, Nat.sub_self, Nat.zero_add, List.getElem?_drop, Nat.add_zero]
theorem xor_u8 (b x : UInt8) (X : Int) (hX : X = x.toNat) : bits BinOp.xor IntKind.u8 (b.toNat : Int) X = ((b ^^^ x).toNat : Int) := by
  rw [hX, u8_xor_nat _ _ (UInt8.toNat_lt b) (UInt8.toNat_lt x), UInt8.toNat_xor]

theorem blk_fill (K : List UInt8) (hK : K.length ≤ 64) : splice (bz 64) 0 (K.map bv) = (K ++ List.replicate (64 - K.length) 0).map bv := by
  unfold splice bz
  rw [List.take_zero, List.nil_append, List.drop_replicate, List.length_map, Nat.zero_add, List.map_append, List.map_replicate]
  rfl

section
variable {P : Program} {ops : Array Oper} {rest : List Oper} {op : Oper} {a : Act} {w : World} {Q : Exit → Act → World → Prop}
/-- 'copy(b[o:], s)', s a slice. -/
theorem wpList_blk_copyS (hgd : op.guard = none) (d s : Operand) (dT sT : TypeId) (ho : op.op = .call { callee := .builtin .copy, args := #[d, s], argTypes := #[dT, sT] }) (elem : TypeId) (hu : P.underlying dT = some (.slice elem)) (hsz : (P.info? elem).map (·.size) = some 1)
    {g : Nat} {L : List Value} {t : TypeId} (o dLen dCap : Nat) (ad : Addr) (sLen sCap : Nat) (hd : a.eval d = .slice (some ⟨g, o, none⟩) dLen dCap) (hs : a.eval s = .slice (some ad) sLen sCap) (hb : Blk w g L t) (cs : List Value) (hn : cs.length = Nat.min sLen dLen)
    (hsrc : ∀ j v, cs[j]? = some v → w.cell? (ad.add j) = some v) (hfit : o + cs.length ≤ L.length) (h1 : ∀ v ∈ cs, v.oneCell' = true)
    (h : ∀ w', Hid (Blk w' g (splice L o cs) t) → Only g w w' → wpList P ops Q rest (a.put op.dst (goInt cs.length)) w') : wpList P ops Q (op :: rest) a w := by
  refine wpList_copy_own hgd d s dT sT ho elem hu hsz g o dLen dCap ad sLen sCap hd hs L.toArray t hb cs hn hsrc (by simpa using hfit) h1 ?_
  exact h _ (hb.setRow _) (Only.setRow _ _ _)
end
end Go.Proofs.YtlgokfgiemaklaaDoor
