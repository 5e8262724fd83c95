/-
  Contracts of the specification's Many; what a walk's struct is.
-/
import Derived.Test.YtlgokfgiemaklaaDoorRmn
namespace Go.Proofs.YtlgokfgiemaklaaDoor
set_option linter.unusedVariables false
set_option linter.unusedSimpArgs false
open Go.RowKit

section
variable {W : World} {A A' : Option Addr} {n c n' c' : Nat} {L : List (List UInt8)} {ps : List Int}
theorem rascend_v (h : IV W A n c ps) (hl : n ≤ 1000000) (m : Int) (r : Bool) (hr : r = ascGo m 0 ps) : Calls Tryd.prog 44 #[.slice A n c, .int .i64 m] W fun e w' => e = .returned (.bool r) ∧ Below W.heap.size W w' := by
  obtain ⟨rfl, h1, h2, h3, h4⟩ := h
  subst hr
  refine (ascend_any ps m A c W h1 hl h4).mono ?_
  rintro e w' ⟨rfl, k, rfl⟩
  exact ⟨rfl, below_drewN (Below.refl _ _) k⟩
set_option maxRecDepth 100000 in
set_option maxHeartbeats 4000000 in
theorem rmany_v (h : DV W A n c L) (h' : IV W A' n' c' ps) (hl : n ≤ 1000) (hl' : n' ≤ 1000) (ht : Tbs W) (Q : List (List UInt8)) (E : Int) (hQ : Q = mnQ L ps) (hE : E = mnE L ps) : Calls Tryd.prog 22 #[.slice A n c, .slice A' n' c'] W fun e w' => ∃ A n c, e = .returned (.agg #[.slice A n c, .int .i64 E]) ∧ DV w' A n c Q ∧ Below W.heap.size W w' := by
  obtain ⟨dd, hdu, hdr⟩ := row_path
  have hdu' := Lib.hid hdu
  obtain ⟨W1, hW1⟩ : ∃ W1, W1 = W.alloc (.cells #[.slice none 0 0, .int .i64 0] 28) := ⟨_, rfl⟩
  have E1 : Hid (Below W.heap.size W W1) := by show Below _ _ _; rw [hW1]; exact (Below.refl _ _).alloc (Nat.le_refl _) _
  have BK : Hid (Blk W1 W.heap.size [.slice none 0 0, .int .i64 0] 28) := by show Blk _ _ _ _; rw [hW1]; exact Blk.new _ [_, _] _
  have R0 := Lib.hid (h.keep E1.out)
  have RP := Lib.hid (h'.keep E1.out)
  have T := Lib.hid (ht.keep E1.out)
  have hW1' := Lib.hid hW1
  obtain ⟨r, hr⟩ : ∃ r, r = ascGo (n : Int) 0 ps := ⟨_, rfl⟩
  have HA := Lib.hid (fun w (h : IV w A' n' c' ps) => rascend_v h (by omega) (n : Int) r hr)
  have hlen := Lib.hid h.len
  have hrH := Lib.hid hr
  have hQ' := Lib.hid hQ
  have hE' := Lib.hid hE
  have hd16 := Lib.hid h.d16
  obtain ⟨gK, hgK⟩ : ∃ g, g = W.heap.size := ⟨_, rfl⟩
  have hgK' := Lib.hid hgK
  rw [← hgK] at BK
  clear hW1 hdu h h' ht hr hQ hE hgK
  go_enter Tryd.func22, Tryd.ntmps22
  go_wp2_with fail
  generalize hg : W.alloc _ = Wg
  have hgW : W1 = Wg := by rw [← hg, hW1'.out]
  clear hg hW1'
  subst hgW
  rw [← hgK'.out]
  refine (HA.out _ RP.out).mono ?_
  rintro e v1 ⟨rfl, hb⟩
  replace BK := Lib.hid (BK.out.below hb BK.out.lt)
  replace R0 := Lib.hid (R0.out.keep hb)
  replace RP := Lib.hid (RP.out.keep hb)
  replace T := Lib.hid (T.out.keep hb)
  replace E1 := Lib.hid (E1.out.trans (hb.mono E1.out.size))
  have hK1 : Hid (gK < v1.heap.size) := BK.out.lt
  clear hb HA
  cases r with
  | false =>
    have q1 : Hid (Q = []) := by show _ = _; rw [hQ'.out]; unfold mnQ; rw [← hlen.out, ← hrH.out, if_neg (by simp)]
    have q2 : E = 1 := by rw [hE'.out]; unfold mnE; rw [← hlen.out, ← hrH.out]; rfl
    subst q2
    go_wp2_with (refine wpList_row_store rfl 28 _ _ rfl [.slice none 0 0, .int .i64 1] rfl rfl BK.out size_path rfl (path_one _ _ _ _) ?_; intro w3 hw3 ho3)
    exact bodyPost_ret (ret_blk rfl _ w3 (g := gK) rfl hw3.out dd hdu'.out hdr size_path) rfl ⟨none, 0, 0, rfl, by rw [q1.out]; exact dv_nil _, E1.out.trans (ho3.below (by have := hgK'.out; omega))⟩
  | true =>
    have q2 : E = 0 := by rw [hE'.out]; unfold mnE; rw [← hlen.out, ← hrH.out]; rfl
    subst q2
    by_cases h0 : n = 0
    · have q1 : Hid (Q = []) := by show _ = _; rw [hQ'.out]; unfold mnQ; rw [if_neg (by have := hlen.out; omega)]
      have z0 : ((n : Int) == 0) = true := by simp; omega
      clear h0
      go_wp2_with (refine wpList_row_store rfl 28 _ _ rfl [.slice none 0 0, .int .i64 0] rfl rfl BK.out size_path rfl (path_one _ _ _ _) ?_; intro w3 hw3 ho3)
      exact bodyPost_ret (ret_blk rfl _ w3 (g := gK) rfl hw3.out dd hdu'.out hdr size_path) rfl ⟨none, 0, 0, rfl, by rw [q1.out]; exact dv_nil _, E1.out.trans (ho3.below (by have := hgK'.out; omega))⟩
    · have z0 : ((n : Int) == 0) = false := by simp; omega
      have hag := ascGo_asc hrH.out.symm
      have q1 : Hid (Q = mny 0 L ps) := by show _ = _; rw [hQ'.out]; unfold mnQ; rw [← hlen.out, if_pos ⟨hrH.out.symm, by omega⟩]
      have HM := refMany_up n 0 n c n' c' L A A' ps ps v1 (Nat.le_refl _) (by omega) hl (by omega) R0.out RP.out hl' hag.1 (wth_all (fun p hp => by have := hag.2 p hp; omega)).symm T.out
      rw [← q1.out] at HM
      have hQd : Hid (D16 Q) := by show D16 _; rw [q1.out]; exact mny_d16 _ _ _ _ (Nat.le_refl _) hd16.out
      have HM' := Lib.hid (show Calls Tryd.prog 45 #[.slice A n c, .int .i64 0, .slice A' n' c'] v1 _ from HM)
      clear h0 hag HM
      go_wp2_with fail
      refine HM'.out.mono ?_
      rintro e v2 ⟨⟨v, rfl, ho⟩, hb⟩
      replace BK := Lib.hid (BK.out.below hb BK.out.lt)
      have hlt : gK < v1.heap.size := hK1.out
      replace E1 := Lib.hid (E1.out.trans (hb.mono E1.out.size))
      obtain ⟨A2, c2, rfl, _, _, _, _⟩ := ho.form
      have hoH := Lib.hid ho
      clear hb ho
      go_wp2_with (refine wpList_row_store rfl 28 _ _ rfl [.slice A2 Q.length c2, .int .i64 0] rfl rfl BK.out size_path rfl (path_one _ _ _ _) ?_; intro w3 hw3 ho3)
      refine bodyPost_ret (ret_blk rfl _ w3 (g := gK) rfl hw3.out dd hdu'.out hdr size_path) rfl ⟨A2, Q.length, c2, rfl, ?_, E1.out.trans (ho3.below (by have := hgK'.out; omega))⟩
      exact DV.of (OwnD.only hoH.out ho3 hlt) hQd.out
end
/-- A walk's struct: the digest, Found, Path, Ok. -/
def wkv (D : List UInt8) (f p : Nat) (g : Bool) : List Value := D.map bv ++ [.int .i64 (f : Nat), .int .i64 (p : Nat), .bool g]
theorem wkv_len {D : List UInt8} (h : D.length = 16) (f p : Nat) (g : Bool) : (wkv D f p g).length = 19 := by simp [wkv, h]
theorem wkv_one (D : List UInt8) (f p : Nat) (g : Bool) : ∀ u ∈ wkv D f p g, u.oneCell' = true := by
  intro u hu
  rcases List.mem_append.1 hu with h | h
  · exact av_one D u h
  · simp only [List.mem_cons, List.not_mem_nil, or_false] at h
    rcases h with rfl | rfl | rfl <;> rfl
theorem infoBool' : (Tryd.prog.info? 4).map (fun i => (i.zero, i.size, i.bytes)) = some (some (.bool false), 1, 1) := by kernel_rfl
theorem infoWk : (Tryd.prog.info? 85).map (fun i => (i.zero, i.size, i.bytes)) = some (some (.agg (wkv z16 0 0 false).toArray), 19, 40) := by kernel_rfl
theorem size_wk {D : List UInt8} (h : D.length = 16) (f p : Nat) (g : Bool) : (Tryd.prog.info? 85).map (·.size) = some (wkv D f p g).length := by rw [wkv_len h]; kernel_rfl
theorem row_wk : ∃ d, Tryd.prog.underlying 85 = some d ∧ d.isRow = true := ⟨_, Tryd.underlying85, rfl⟩
theorem fill_dig (pl : Nat → Option (Nat × Nat)) (D : List UInt8) (R : List Value) (rest : List (Nat × Value)) (h : D.length = 16) (hp : pl 0 = some (0, 16)) :
    Instr.fill pl (bz 16 ++ R).toArray ((0, .agg (D.map bv).toArray) :: rest) = Instr.fill pl (D.map bv ++ R).toArray rest := by
  have hf := foldl_off 0 (D.map bv) 0 [] (bz 16 ++ R) (bz 16 ++ R).toArray (by simp) rfl (by simp [h, bz])
  rw [Instr.fill, hp]
  have hc : (Value.agg (D.map bv).toArray).cells = (D.map bv).toArray := rfl
  simp only [hc, List.size_toArray, List.length_map, h]
  rw [if_neg (by simp [bz])]
  congr 1
  apply Array.ext'
  have he : (Array.foldl (fun cs (x : Value × Nat) => match x with | (c, j) => cs.setIfInBounds (0 + j) c) (bz 16 ++ R).toArray (D.map bv).toArray.zipIdx) = ((D.map bv).zipIdx 0).foldl (fun cs x => cs.setIfInBounds (0 + x.2) x.1) (bz 16 ++ R).toArray := by
    rw [← Array.foldl_toList]
    simp
  rw [he, hf]
  simp [h, bz]
theorem fill_cell (pl : Nat → Option (Nat × Nat)) (D : List UInt8) (a b : List Value) (u v : Value) (i : Nat) (rest : List (Nat × Value)) (h : D.length = 16) (hp : pl i = some (16 + a.length, 1)) (hv : v.cells = #[v]) :
    Instr.fill pl (D.map bv ++ (a ++ u :: b)).toArray ((i, v) :: rest) = Instr.fill pl (D.map bv ++ (a ++ v :: b)).toArray rest := by
  rw [Instr.fill, hp]
  simp only [hv]
  rw [if_neg (by simp [h]; omega)]
  congr 1
  apply Array.ext'
  simp [h, List.set_append]
def wkPl (i : Nat) : Option (Nat × Nat) := ([(0, 16), (16, 1), (17, 1), (18, 1)] : List (Nat × Nat))[i]?
theorem run_build_wk (parts : Array (Nat × Value)) (C : List Value) (hC : Instr.fill wkPl (wkv z16 0 0 false).toArray parts.toList = some C.toArray) (W : World) :
    (Instr.build 85 parts).run Tryd.prog W = .ok (.agg C.toArray) W := by
  obtain ⟨i1, hi1, hz1, hs1, _⟩ := info_parts infoWk
  obtain ⟨i2, hi2, _, hs2, _⟩ := info_parts infoDg
  obtain ⟨i3, hi3, _, hs3, _⟩ := info_parts infoInt
  obtain ⟨i4, hi4, _, hs4, _⟩ := info_parts infoBool'
  have hC' : Instr.fill (fun i => ([(0, 16), (16, 1), (17, 1), (18, 1)] : List (Nat × Nat))[i]?) (wkv z16 0 0 false).toArray parts.toList = some C.toArray := hC
  have hzc : (Value.agg (wkv z16 0 0 false).toArray).cells = (wkv z16 0 0 false).toArray := rfl
  generalize (wkv z16 0 0 false).toArray = Z at hz1 hzc hC'
  simp only [Instr.build, Sem.run_bind, run_underlying Tryd.underlying85, Result.andThen_ok, sizeOf, typeInfo, zeroValue]
  simp [hi1, hi2, hi3, hi4, hs2, hs3, hs4, hz1, hzc, hC']
theorem wkPl_0 : wkPl 0 = some (0, 16) := rfl
theorem wk_zero (D : List UInt8) (hD : D.length = 16) (rest : List (Nat × Value)) : Instr.fill wkPl (wkv z16 0 0 false).toArray ((0, .agg (D.map bv).toArray) :: rest) = Instr.fill wkPl (D.map bv ++ [Value.int .i64 0, Value.int .i64 0, Value.bool false]).toArray rest := fill_dig wkPl D [.int .i64 0, .int .i64 0, .bool false] rest hD rfl
theorem wk_p (D : List UInt8) (hD : D.length = 16) : Instr.fill wkPl (wkv z16 0 0 false).toArray [(0, .agg (D.map bv).toArray), (2, .int .i64 1), (3, .bool true)] = some (wkv D 0 1 true).toArray := by
  exact (wk_zero D hD _).trans ((fill_cell wkPl D [.int .i64 0] [.bool false] (.int .i64 0) (.int .i64 1) 2 _ hD rfl rfl).trans (fill_cell wkPl D [.int .i64 0, .int .i64 1] [] (.bool false) (.bool true) 3 _ hD rfl rfl))
theorem wk_f (D : List UInt8) (hD : D.length = 16) : Instr.fill wkPl (wkv z16 0 0 false).toArray [(0, .agg (D.map bv).toArray), (1, .int .i64 1), (3, .bool true)] = some (wkv D 1 0 true).toArray := by
  exact (wk_zero D hD _).trans ((fill_cell wkPl D [] [.int .i64 0, .bool false] (.int .i64 0) (.int .i64 1) 1 _ hD rfl rfl).trans (fill_cell wkPl D [.int .i64 1, .int .i64 0] [] (.bool false) (.bool true) 3 _ hD rfl rfl))
theorem wk_a (D : List UInt8) (hD : D.length = 16) (f p : Nat) (g : Bool) : Instr.fill wkPl (wkv z16 0 0 false).toArray [(0, .agg (D.map bv).toArray), (1, .int .i64 f), (2, .int .i64 p), (3, .bool g)] = some (wkv D f p g).toArray := by
  exact (wk_zero D hD _).trans ((fill_cell wkPl D [] [.int .i64 0, .bool false] (.int .i64 0) (.int .i64 f) 1 _ hD rfl rfl).trans ((fill_cell wkPl D [.int .i64 f] [.bool false] (.int .i64 0) (.int .i64 p) 2 _ hD rfl rfl).trans (fill_cell wkPl D [.int .i64 f, .int .i64 p] [] (.bool false) (.bool g) 3 _ hD rfl rfl)))
section
variable {w : World} {ops : Array Oper} {rest : List Oper} {o : Oper} {a : Act} {Q : Exit → Act → World → Prop}
theorem step_wk (hgd : o.guard = none) (parts : Array (Nat × Operand)) (ho : o.op = .build 85 parts) (C : List Value) (hC : Instr.fill wkPl (wkv z16 0 0 false).toArray (parts.toList.map fun p => (p.1, a.eval p.2)) = some C.toArray)
    (h : wpList Tryd.prog ops Q rest (a.put o.dst (.agg C.toArray)) w) : wpList Tryd.prog ops Q (o :: rest) a w := by
  refine wpList_plain hgd fun K hK => ?_
  have hr := run_build_wk (parts.map fun p => (p.1, a.eval p.2)) C (by rw [Array.toList_map]; exact hC) w
  unfold Oper.wp execOp
  simp only [ho, Sem.run_bind, Sem.run_pure, Result.andThen_ok, hr]
  exact hK _ _ h
theorem build_wk_run (parts : Array (Nat × Operand)) (ho : o.op = .build 85 parts) (C : List Value) (hC : Instr.fill wkPl (wkv z16 0 0 false).toArray (parts.toList.map fun p => (p.1, a.eval p.2)) = some C.toArray) (W : World) :
    (execOp a.eval o).run Tryd.prog W = .ok (.value (.agg C.toArray)) W := by
  have hr := run_build_wk (parts.map fun p => (p.1, a.eval p.2)) C (by rw [Array.toList_map]; exact hC) W
  unfold execOp
  simp only [ho, Sem.run_bind, Sem.run_pure, Result.andThen_ok, hr]
end
end Go.Proofs.YtlgokfgiemaklaaDoor
