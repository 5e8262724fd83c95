/-
  Hash trees over lists: sizes of parts, roots, proofs of inclusion and of consistency (the mathematics alone). Contracts of stage 3: Leaf, Node, and the reference's. Contracts of stage 3: sizes of parts, the two parts of a list. Contracts of stage 3: the root of a list. Contracts of stage 3: the reference's split, Empty, Root and Same.
-/
import Derived.Test.YtlgokfgiemaklaaDoorRows
import Derived.Test.YtlgokfgiemaklaaDoorRfin
import Derived.Lib.Tables
import Derived.Lib.Small
import Derived.Lib.Walk
import Derived.Lib.BitFns
import Derived.Deep.QuietTactic
import Derived.BigQuiet
namespace Go.Proofs.YtlgokfgiemaklaaDoor.Mk
set_option linter.unusedVariables false

def ksz (n : Nat) : Nat := 2 ^ Nat.log2 (n - 1)
theorem ksz_pos (n : Nat) : 0 < ksz n := Nat.two_pow_pos _
theorem ksz_lt {n : Nat} (h : 2 ≤ n) : ksz n < n := by
  have h1 : 2 ^ Nat.log2 (n - 1) ≤ n - 1 := Nat.log2_self_le (by omega)
  unfold ksz
  omega
theorem ksz_half {n : Nat} (h : 2 ≤ n) : n ≤ 2 * ksz n := by
  have h1 : n - 1 < 2 ^ (Nat.log2 (n - 1) + 1) := Nat.lt_log2_self
  unfold ksz
  rw [Nat.pow_succ] at h1
  omega
theorem ksz_of {n k j : Nat} (hk : k = 2 ^ j) (h1 : k < n) (h2 : n ≤ 2 * k) : ksz n = k := by
  have hp : 0 < 2 ^ j := Nat.two_pow_pos j
  have h0 : n - 1 ≠ 0 := by omega
  have e : Nat.log2 (n - 1) = j := by
    apply Nat.le_antisymm
    · have : Nat.log2 (n - 1) < j + 1 := (Nat.log2_lt h0).2 (by rw [Nat.pow_succ]; omega)
      omega
    · exact (Nat.le_log2 h0).2 (by omega)
  unfold ksz
  rw [e, hk]

section
variable {α : Type} (nd : α → α → α) (emp : α)

def root (l : List α) : α :=
  if h : l.length ≤ 1 then l.headD emp
  else nd (root (l.take (ksz l.length))) (root (l.drop (ksz l.length)))
termination_by l.length
decreasing_by
  all_goals
    have h1 := ksz_lt (show 2 ≤ l.length by omega)
    have h2 := ksz_pos l.length
    simp only [List.length_take, List.length_drop]
    omega
theorem root_nil : root nd emp [] = emp := by rw [root]; rfl
theorem root_one (x : α) : root nd emp [x] = x := by rw [root]; rfl
theorem root_two {l : List α} (h : 2 ≤ l.length) : root nd emp l = nd (root nd emp (l.take (ksz l.length))) (root nd emp (l.drop (ksz l.length))) := by
  rw [root, dif_neg (by omega)]

def incl (l : List α) (i : Nat) : List α :=
  if h : l.length ≤ 1 then []
  else if i < ksz l.length then incl (l.take (ksz l.length)) i ++ [root nd emp (l.drop (ksz l.length))]
  else incl (l.drop (ksz l.length)) (i - ksz l.length) ++ [root nd emp (l.take (ksz l.length))]
termination_by l.length
decreasing_by
  all_goals
    have h1 := ksz_lt (show 2 ≤ l.length by omega)
    have h2 := ksz_pos l.length
    simp only [List.length_take, List.length_drop]
    omega
theorem incl_one {l : List α} (h : l.length ≤ 1) (i : Nat) : incl nd emp l i = [] := by rw [incl, dif_pos h]
theorem incl_left {l : List α} (h : 2 ≤ l.length) {i : Nat} (hi : i < ksz l.length) : incl nd emp l i = incl nd emp (l.take (ksz l.length)) i ++ [root nd emp (l.drop (ksz l.length))] := by
  rw [incl, dif_neg (by omega), if_pos hi]
theorem incl_right {l : List α} (h : 2 ≤ l.length) {i : Nat} (hi : ¬ i < ksz l.length) : incl nd emp l i = incl nd emp (l.drop (ksz l.length)) (i - ksz l.length) ++ [root nd emp (l.take (ksz l.length))] := by
  rw [incl, dif_neg (by omega), if_neg hi]

def cons (l : List α) (m : Nat) (mark : Bool) : List α :=
  if m = l.length then (if mark then [] else [root nd emp l])
  else if h : l.length ≤ 1 then []
  else if m ≤ ksz l.length then cons (l.take (ksz l.length)) m mark ++ [root nd emp (l.drop (ksz l.length))]
  else cons (l.drop (ksz l.length)) (m - ksz l.length) false ++ [root nd emp (l.take (ksz l.length))]
termination_by l.length
decreasing_by
  all_goals
    have h1 := ksz_lt (show 2 ≤ l.length by omega)
    have h2 := ksz_pos l.length
    simp only [List.length_take, List.length_drop]
    omega
theorem cons_all {l : List α} {m : Nat} (h : m = l.length) (mark : Bool) : cons nd emp l m mark = if mark then [] else [root nd emp l] := by rw [cons, if_pos h]
theorem cons_left {l : List α} (h : 2 ≤ l.length) {m : Nat} (h1 : m ≠ l.length) (hm : m ≤ ksz l.length) (mark : Bool) : cons nd emp l m mark = cons nd emp (l.take (ksz l.length)) m mark ++ [root nd emp (l.drop (ksz l.length))] := by
  rw [cons, if_neg h1, dif_neg (by omega), if_pos hm]
theorem cons_right {l : List α} (h : 2 ≤ l.length) {m : Nat} (h1 : m ≠ l.length) (hm : ¬ m ≤ ksz l.length) (mark : Bool) : cons nd emp l m mark = cons nd emp (l.drop (ksz l.length)) (m - ksz l.length) false ++ [root nd emp (l.take (ksz l.length))] := by
  rw [cons, if_neg h1, dif_neg (by omega), if_neg hm]
end
end Go.Proofs.YtlgokfgiemaklaaDoor.Mk

namespace Go.Proofs.YtlgokfgiemaklaaDoor
set_option linter.unusedVariables false
open Go.RowKit

def nd (a b : List UInt8) : List UInt8 := Sha.hashOf 31 [a, b]
def lf (a : List UInt8) : List UInt8 := Sha.hashOf 30 [a]
def emp : List UInt8 := Sha.hashOf 32 []
theorem hashOf_len (t : Int) (l : List (List UInt8)) : (Sha.hashOf t l).length = 16 := by unfold Sha.hashOf; rw [List.length_take, Sha.sum_len]; rfl
theorem nd_len (a b : List UInt8) : (nd a b).length = 16 := hashOf_len _ _
theorem lf_len (a : List UInt8) : (lf a).length = 16 := hashOf_len _ _
theorem emp_len : emp.length = 16 := hashOf_len _ _
theorem encB_len (a : List UInt8) : (Wm.encBytes a).length ≤ 10 + a.length := by
  have := Wm.enc_len a.length
  unfold Wm.encBytes
  rw [List.length_append]
  omega

theorem slice_arr_run {P : Program} {o : Oper} {a : Act} (ty : TypeId) (x : Operand) (hop : o.op = .slice ty x none none none) (ad : Addr) (hx : a.eval x = .pointer (some ad)) (n : Nat) (e : TypeId) (hu : P.underlying ty = some (.array n e)) (hs : (P.info? e).map (·.size) = some 1) (hn : n ≠ 0) (W : World) :
    (execOp a.eval o).run P W = .ok (.value (.slice (some ad) n n)) W := by
  have h := run_sliceAt_arr (P := P) W ty n e ad hu hs none none 0 n (.inl ⟨rfl, rfl⟩) (.inl ⟨rfl, rfl⟩) (Nat.zero_le _) (Nat.le_refl _)
  unfold execOp
  simp only [hop, hx, Option.map_none, Sem.run_bind, Sem.run_pure, h, Result.andThen_ok]
  rw [if_neg hn]
  simp [Addr.add]
theorem conv_run16 {o : Oper} {a : Act} (x : Operand) (hop : o.op = .convert 75 9 x) (l : List UInt8) (hl : l.length = 16) (A : Option Addr) (c B : Nat) (hx : a.eval x = .slice A 16 c) (W : World) (hr : Rds W B A (l.map bv)) :
    (execOp a.eval o).run Tryd.prog W = .ok (.value (.string (bs l))) W := conv_run x hop l A c B (by rw [hx, hl]) W hr

set_option maxRecDepth 100000 in
set_option maxHeartbeats 1000000 in
theorem leaf_any (s : List UInt8) (w : World) (hs : s.length ≤ 100000) (ht : Tab 2 w) :
    Calls Tryd.prog 14 #[sv s] w fun e w' => e = .returned (av (lf s)) ∧ Below w.heap.size w w' := by
  have hml : (Sha.message [s]).length ≤ 100000000 := by
    have := encB_len s
    simp [Sha.message]
    omega
  have hT := Lib.hid ht
  obtain ⟨D, hD⟩ : ∃ D, D = lf s := ⟨_, rfl⟩
  have HO : Hid (∀ W A c, Rds W W.heap.size A ([s].map sv) → Tab 2 W → Calls Tryd.prog 37 #[.int .i64 30, .slice A 1 c] W fun e w' => e = .returned (av D) ∧ Below W.heap.size W w') := fun W A c hr hT => by
    rw [hD]
    exact of_any 30 [s] A c W hr (Nat.succ_le_of_lt (by simp)) hml hT
  have hDl : (D.map bv).length = 16 := by rw [List.length_map, hD]; exact lf_len s
  have hDs := Lib.hid (size_dig16 _ hDl)
  have hDo := av_one D
  rw [← hD]
  clear hD hml ht
  unfold av at HO ⊢
  unfold sv at *
  simp only [List.map_cons, List.map_nil] at HO
  generalize bs s = S at *
  obtain ⟨W2, hW2⟩ : ∃ W2, W2 = (w.alloc (.cells (bz 16).toArray 31)).alloc (.cells #[.string S] 9) := ⟨_, rfl⟩
  have hB2 : Hid (Below w.heap.size w W2) := by show Below _ _ _; rw [hW2]; exact ((Below.refl _ _).alloc (Nat.le_refl _) _).alloc (by simp) _
  have hR2 : Hid (Blk W2 w.heap.size (bz 16) 31) := by show Blk _ _ _ _; rw [hW2]; exact (Blk.new _ _ _).alloc _
  have hr2 : Hid (Rds W2 W2.heap.size (some ⟨w.heap.size + 1, 0, none⟩) [.string S]) := by
    show Rds _ _ _ _
    have h := (Blk.new (w.alloc (.cells (bz 16).toArray 31)) [.string S] 9).rds 0 1
    rw [hW2]
    simpa using h
  have hW2' := Lib.hid hW2
  clear hW2
  go_enter Tryd.func14, Tryd.ntmps14
  go_wp2_with fail
  generalize hg : (w.alloc _).alloc _ = Wg
  have hgW : W2 = Wg := by rw [← hg, hW2'.out]; rfl
  clear hg hW2'
  subst hgW
  refine (HO.out _ _ _ hr2.out (hT.out.on hB2.out)).mono ?_
  rintro e w3 ⟨rfl, hb3⟩
  have hR3 := hR2.out.below hb3 hR2.out.lt
  go_wp2_with (refine wpList_row_store rfl 31 _ _ rfl (D.map bv) rfl rfl hR3 hDs.out (by rw [hDl]; rfl) hDo ?_; intro w4 hW4 ho4)
  exact bodyPost_ret (ret_blk rfl _ w4 (g := w.heap.size) rfl hW4.out (.array 16 5) arr_dig rfl hDs.out) rfl ⟨rfl, (hB2.out.trans (hb3.mono hB2.out.size)).trans (ho4.below (Nat.le_refl _))⟩
set_option maxRecDepth 100000 in
set_option maxHeartbeats 1000000 in
theorem node_any (a b : List UInt8) (w : World) (ha : a.length = 16) (hb : b.length = 16) (ht : Tab 2 w) :
    Calls Tryd.prog 19 #[av a, av b] w fun e w' => e = .returned (av (nd a b)) ∧ Below w.heap.size w w' := by
  have hml : (Sha.message [a, b]).length ≤ 100000000 := by
    have h1 := encB_len a
    have h2 := encB_len b
    simp [Sha.message]
    omega
  have hT := Lib.hid ht
  obtain ⟨D, hD⟩ : ∃ D, D = nd a b := ⟨_, rfl⟩
  have HO : Hid (∀ W A c, Rds W W.heap.size A ([a, b].map sv) → Tab 2 W → Calls Tryd.prog 37 #[.int .i64 31, .slice A 2 c] W fun e w' => e = .returned (av D) ∧ Below W.heap.size W w') := fun W A c hr hT => by
    rw [hD]
    exact of_any 31 [a, b] A c W hr (Nat.le_of_lt (by simp)) hml hT
  have hDl : (D.map bv).length = 16 := by rw [List.length_map, hD]; exact nd_len a b
  have hDs := Lib.hid (size_dig16 _ hDl)
  have hDo := av_one D
  rw [← hD]
  clear hD hml ht
  obtain ⟨W3, hW3⟩ : ∃ W3, W3 = ((w.alloc (.cells (a.map bv).toArray 31)).alloc (.cells (b.map bv).toArray 31)).alloc (.cells (bz 16).toArray 31) := ⟨_, rfl⟩
  have hs3 : Hid (W3.heap.size = w.heap.size + 1 + 1 + 1) := by show _ = _; rw [hW3]; simp
  have hA3 : Hid (Blk W3 w.heap.size (a.map bv) 31) := by show Blk _ _ _ _; rw [hW3]; exact ((Blk.new _ _ _).alloc _).alloc _
  have hB3 : Hid (Blk W3 (w.heap.size + 1) (b.map bv) 31) := by show Blk _ _ _ _; rw [hW3]; exact ((Blk.new _ _ _).alloc _).at (by simp)
  have hR3 : Hid (Blk W3 (w.heap.size + 1 + 1) (bz 16) 31) := by show Blk _ _ _ _; rw [hW3]; exact (Blk.new _ _ _).at (by simp)
  have hb3 : Hid (Below w.heap.size w W3) := by show Below _ _ _; rw [hW3]; exact (((Below.refl _ _).alloc (Nat.le_refl _) _).alloc (by simp) _).alloc (by simp; omega) _
  have hW3' := Lib.hid hW3
  have hal := Lib.hid ha
  have hbl := Lib.hid hb
  have hrA : Hid (∀ x : ExtOf W3.drew, Rds x.world x.world.heap.size (some ⟨w.heap.size, 0, none⟩) (a.map bv)) := fun x => by
    have h := (hA3.out.below (x.below (Nat.le_refl _)) hA3.out.lt).rds 0 16
    rw [List.drop_zero, List.take_of_length_le (by rw [List.length_map, ha]; exact Nat.le_refl _)] at h
    exact h
  have hrB : Hid (∀ x : ExtOf W3.drew, Rds x.world x.world.heap.size (some ⟨w.heap.size + 1, 0, none⟩) (b.map bv)) := fun x => by
    have h := (hB3.out.below (x.below (Nat.le_refl _)) hB3.out.lt).rds 0 16
    rw [List.drop_zero, List.take_of_length_le (by rw [List.length_map, hb]; exact Nat.le_refl _)] at h
    exact h
  clear hW3 ha hb
  unfold av at HO ⊢
  unfold sv at *
  simp only [List.map_cons, List.map_nil] at HO
  go_enter Tryd.func19, Tryd.ntmps19
  go_wp2_with fail
  generalize hg : ((w.alloc _).alloc _).alloc _ = Wg
  have hgW : W3 = Wg := by rw [← hg, hW3'.out]; rfl
  clear hg hW3'
  subst hgW
  refine wp_region_planL 6 [(true, 0), (true, 1), (true, 2), (true, 3), (false, 4), (false, 5), (false, 6)] (by kernel_rfl) (by decide) (by kernel_rfl) (by kernel_rfl) (by kernel_rfl) (by decide) (by intro c a d v w h; cases d <;> exact h) ?_
  change wpPlanL _ _ _ _ _ _ W3.drew
  refine wpPlanL_runW rfl (by rfl) _ (fun x => slice_arr_run 31 _ rfl ⟨w.heap.size, 0, none⟩ rfl 16 5 arr_dig size_u8 (by decide) x.world) ?_
  refine wpPlanL_runW rfl (by rfl) _ (fun x => conv_run16 _ rfl a hal.out _ 16 _ rfl x.world (hrA.out x)) ?_
  refine wpPlanL_runW rfl (by rfl) _ (fun x => slice_arr_run 31 _ rfl ⟨w.heap.size + 1, 0, none⟩ rfl 16 5 arr_dig size_u8 (by decide) x.world) ?_
  refine wpPlanL_runW rfl (by rfl) _ (fun x => conv_run16 _ rfl b hbl.out _ 16 _ rfl x.world (hrB.out x)) ?_
  generalize bs a = SA at *
  generalize bs b = SB at *
  refine wpPlanL_call rfl (fun K hK => ?_)
  go_wp2_with fail
  have hx4 : Ext W3.drew (W3.drew.alloc (.cells #[.string SA, .string SB] 9)) := (Below.refl _ _).alloc (Nat.le_refl _) _
  refine planPostL_normal ⟨.inr hx4, hK _ _ ?_⟩
  clear hK K hx4
  obtain ⟨W4, hW4⟩ : ∃ W4, W4 = W3.drew.alloc (.cells #[.string SA, .string SB] 9) := ⟨_, rfl⟩
  have hb4 : Below W3.heap.size W3 W4 := by rw [hW4]; exact ((Below.refl _ _).drew).alloc (Nat.le_refl _) _
  have hB4 : Below w.heap.size w W4 := hb3.out.trans (hb4.mono hb3.out.size)
  have hR4 := hR3.out.below hb4 hR3.out.lt
  have hr4 : Rds W4 W4.heap.size (some ⟨W3.heap.size, 0, none⟩) [.string SA, .string SB] := by
    have h := (Blk.new W3.drew [.string SA, .string SB] 9).rds 0 2
    rw [hW4]
    simpa using h
  change wpPlanL _ _ _ _ _ _ (W3.drew.alloc (.cells #[.string SA, .string SB] 9))
  rw [← hW4]
  clear hW4
  refine wpPlanL_call rfl (fun K hK => ?_)
  go_wp2_with fail
  refine (HO.out _ _ _ hr4 (hT.out.on hB4)).mono ?_
  rintro e w5 ⟨rfl, hb5⟩
  go_wp2_with fail
  refine planPostL_normal ⟨.inr hb5, hK _ _ ?_⟩
  clear hK K
  have hB5 : Below w.heap.size w w5 := hB4.trans (hb5.mono hB4.size)
  have hR5 := hR4.below hb5 hR4.lt
  refine wpPlanL_call rfl (fun K hK => ?_)
  refine wpList_row_store rfl 31 _ _ rfl (D.map bv) rfl rfl hR5 hDs.out (by rw [hDl]; rfl) hDo ?_
  intro w6 hW6 ho6
  refine wpList_end (planPostL_normal ⟨.inl rfl, hK _ _ ?_⟩)
  clear hK K
  refine wpPlanL_nil ?_
  go_wp2_with fail
  exact bodyPost_ret (ret_blk rfl _ w6 (g := w.heap.size + 1 + 1) rfl hW6.out (.array 16 5) arr_dig rfl hDs.out) rfl ⟨rfl, hB5.trans (ho6.below (by omega))⟩
set_option maxRecDepth 100000 in
set_option maxHeartbeats 1000000 in
theorem refNode_any (a b : List UInt8) (w : World) (ha : a.length = 16) (hb : b.length = 16) (ht : Tab 3 w) :
    Calls Tryd.prog 20 #[av a, av b] w fun e w' => e = .returned (av (nd a b)) ∧ Below w.heap.size w w' := by
  have hml : (Sha.message [a, b]).length ≤ 900000 := by
    have h1 := encB_len a
    have h2 := encB_len b
    simp [Sha.message]
    omega
  have hT := Lib.hid ht
  obtain ⟨D, hD⟩ : ∃ D, D = nd a b := ⟨_, rfl⟩
  have HO : Hid (∀ W A c, Rds W W.heap.size A ([a, b].map sv) → Tab 3 W → Calls Tryd.prog 40 #[.int .i64 31, .slice A 2 c] W fun e w' => e = .returned (av D) ∧ Below W.heap.size W w') := fun W A c hr hT => by
    rw [hD]
    exact refOf_of refSum 31 [a, b] A c W hr (Nat.le_of_lt (by simp)) hml hT
  have hDl : (D.map bv).length = 16 := by rw [List.length_map, hD]; exact nd_len a b
  have hDs := Lib.hid (size_dig16 _ hDl)
  have hDo := av_one D
  rw [← hD]
  clear hD hml ht
  obtain ⟨W3, hW3⟩ : ∃ W3, W3 = ((w.alloc (.cells (a.map bv).toArray 31)).alloc (.cells (b.map bv).toArray 31)).alloc (.cells (bz 16).toArray 31) := ⟨_, rfl⟩
  have hs3 : Hid (W3.heap.size = w.heap.size + 1 + 1 + 1) := by show _ = _; rw [hW3]; simp
  have hA3 : Hid (Blk W3 w.heap.size (a.map bv) 31) := by show Blk _ _ _ _; rw [hW3]; exact ((Blk.new _ _ _).alloc _).alloc _
  have hB3 : Hid (Blk W3 (w.heap.size + 1) (b.map bv) 31) := by show Blk _ _ _ _; rw [hW3]; exact ((Blk.new _ _ _).alloc _).at (by simp)
  have hR3 : Hid (Blk W3 (w.heap.size + 1 + 1) (bz 16) 31) := by show Blk _ _ _ _; rw [hW3]; exact (Blk.new _ _ _).at (by simp)
  have hb3 : Hid (Below w.heap.size w W3) := by show Below _ _ _; rw [hW3]; exact (((Below.refl _ _).alloc (Nat.le_refl _) _).alloc (by simp) _).alloc (by simp; omega) _
  have hW3' := Lib.hid hW3
  have hal := Lib.hid ha
  have hbl := Lib.hid hb
  have hrA : Hid (∀ x : ExtOf W3.drew, Rds x.world x.world.heap.size (some ⟨w.heap.size, 0, none⟩) (a.map bv)) := fun x => by
    have h := (hA3.out.below (x.below (Nat.le_refl _)) hA3.out.lt).rds 0 16
    rw [List.drop_zero, List.take_of_length_le (by rw [List.length_map, ha]; exact Nat.le_refl _)] at h
    exact h
  have hrB : Hid (∀ x : ExtOf W3.drew, Rds x.world x.world.heap.size (some ⟨w.heap.size + 1, 0, none⟩) (b.map bv)) := fun x => by
    have h := (hB3.out.below (x.below (Nat.le_refl _)) hB3.out.lt).rds 0 16
    rw [List.drop_zero, List.take_of_length_le (by rw [List.length_map, hb]; exact Nat.le_refl _)] at h
    exact h
  clear hW3 ha hb
  unfold av at HO ⊢
  unfold sv at *
  simp only [List.map_cons, List.map_nil] at HO
  go_enter Tryd.func20, Tryd.ntmps20
  go_wp2_with fail
  generalize hg : ((w.alloc _).alloc _).alloc _ = Wg
  have hgW : W3 = Wg := by rw [← hg, hW3'.out]; rfl
  clear hg hW3'
  subst hgW
  refine wp_region_planL 6 [(true, 0), (true, 1), (true, 2), (true, 3), (false, 4), (false, 5), (false, 6)] (by kernel_rfl) (by decide) (by kernel_rfl) (by kernel_rfl) (by kernel_rfl) (by decide) (by intro c a d v w h; cases d <;> exact h) ?_
  change wpPlanL _ _ _ _ _ _ W3.drew
  refine wpPlanL_runW rfl (by rfl) _ (fun x => slice_arr_run 31 _ rfl ⟨w.heap.size, 0, none⟩ rfl 16 5 arr_dig size_u8 (by decide) x.world) ?_
  refine wpPlanL_runW rfl (by rfl) _ (fun x => conv_run16 _ rfl a hal.out _ 16 _ rfl x.world (hrA.out x)) ?_
  refine wpPlanL_runW rfl (by rfl) _ (fun x => slice_arr_run 31 _ rfl ⟨w.heap.size + 1, 0, none⟩ rfl 16 5 arr_dig size_u8 (by decide) x.world) ?_
  refine wpPlanL_runW rfl (by rfl) _ (fun x => conv_run16 _ rfl b hbl.out _ 16 _ rfl x.world (hrB.out x)) ?_
  generalize bs a = SA at *
  generalize bs b = SB at *
  refine wpPlanL_call rfl (fun K hK => ?_)
  go_wp2_with fail
  have hx4 : Ext W3.drew (W3.drew.alloc (.cells #[.string SA, .string SB] 9)) := (Below.refl _ _).alloc (Nat.le_refl _) _
  refine planPostL_normal ⟨.inr hx4, hK _ _ ?_⟩
  clear hK K hx4
  obtain ⟨W4, hW4⟩ : ∃ W4, W4 = W3.drew.alloc (.cells #[.string SA, .string SB] 9) := ⟨_, rfl⟩
  have hb4 : Below W3.heap.size W3 W4 := by rw [hW4]; exact ((Below.refl _ _).drew).alloc (Nat.le_refl _) _
  have hB4 : Below w.heap.size w W4 := hb3.out.trans (hb4.mono hb3.out.size)
  have hR4 := hR3.out.below hb4 hR3.out.lt
  have hr4 : Rds W4 W4.heap.size (some ⟨W3.heap.size, 0, none⟩) [.string SA, .string SB] := by
    have h := (Blk.new W3.drew [.string SA, .string SB] 9).rds 0 2
    rw [hW4]
    simpa using h
  change wpPlanL _ _ _ _ _ _ (W3.drew.alloc (.cells #[.string SA, .string SB] 9))
  rw [← hW4]
  clear hW4
  refine wpPlanL_call rfl (fun K hK => ?_)
  go_wp2_with fail
  refine (HO.out _ _ _ hr4 (hT.out.on hB4)).mono ?_
  rintro e w5 ⟨rfl, hb5⟩
  go_wp2_with fail
  refine planPostL_normal ⟨.inr hb5, hK _ _ ?_⟩
  clear hK K
  have hB5 : Below w.heap.size w w5 := hB4.trans (hb5.mono hB4.size)
  have hR5 := hR4.below hb5 hR4.lt
  refine wpPlanL_call rfl (fun K hK => ?_)
  refine wpList_row_store rfl 31 _ _ rfl (D.map bv) rfl rfl hR5 hDs.out (by rw [hDl]; rfl) hDo ?_
  intro w6 hW6 ho6
  refine wpList_end (planPostL_normal ⟨.inl rfl, hK _ _ ?_⟩)
  clear hK K
  refine wpPlanL_nil ?_
  go_wp2_with fail
  exact bodyPost_ret (ret_blk rfl _ w6 (g := w.heap.size + 1 + 1) rfl hW6.out (.array 16 5) arr_dig rfl hDs.out) rfl ⟨rfl, hB5.trans (ho6.below (by omega))⟩
end Go.Proofs.YtlgokfgiemaklaaDoor

namespace Go.Proofs.YtlgokfgiemaklaaDoor
set_option linter.unusedVariables false
set_option linter.unusedSimpArgs false
open Go.RowKit

theorem log2_of {x j : Nat} (h1 : 2 ^ j ≤ x) (h2 : x < 2 ^ (j + 1)) : Nat.log2 x = j := by
  have hp : 0 < 2 ^ j := Nat.two_pow_pos j
  have h0 : x ≠ 0 := by omega
  have a := (Nat.le_log2 h0).2 h1
  have b := (Nat.log2_lt h0).2 h2
  omega
theorem log2_cut (x k : Nat) (h : 1 ≤ x / 2 ^ k) : Nat.log2 x = Nat.log2 (x / 2 ^ k) + k := by
  have hk : 0 < 2 ^ k := Nat.two_pow_pos k
  obtain ⟨y, hy⟩ : ∃ y, y = x / 2 ^ k := ⟨_, rfl⟩
  rw [← hy] at h ⊢
  have l1 : 2 ^ Nat.log2 y ≤ y := Nat.log2_self_le (by omega)
  have l2 : y < 2 ^ (Nat.log2 y + 1) := Nat.lt_log2_self
  apply log2_of
  · rw [Nat.pow_add]
    calc 2 ^ Nat.log2 y * 2 ^ k ≤ y * 2 ^ k := Nat.mul_le_mul_right _ l1
      _ ≤ x := by rw [hy]; exact Nat.div_mul_le_self x _
  · have l3 : x < (y + 1) * 2 ^ k := by
      have := Nat.div_add_mod x (2 ^ k)
      have := Nat.mod_lt x hk
      rw [hy, Nat.add_mul, Nat.mul_comm]
      omega
    calc x < (y + 1) * 2 ^ k := l3
      _ ≤ 2 ^ (Nat.log2 y + 1) * 2 ^ k := Nat.mul_le_mul_right _ l2
      _ = 2 ^ (Nat.log2 y + k + 1) := by rw [← Nat.pow_add]; congr 1; omega
theorem tab8_log : ∀ n : Fin 256, 1 ≤ n.val → ((Lib.len8tab[n.val]?).getD 0).toNat = Nat.log2 n.val + 1 := by decide +kernel
theorem tab8_at (i : Nat) (h : i < Lib.len8tab.size) (h1 : 1 ≤ i) : (Lib.len8tab[i]'h).toNat = Nat.log2 i + 1 := by
  have h2 : i < 256 := by rw [Lib.len8tab_size] at h; exact h
  have e := tab8_log ⟨i, h2⟩ h1
  rw [ByteArray.getElem?_lt' _ _ h, Option.getD_some] at e
  exact e
theorem len8_close {x k i : Nat} {K : Int} (h : i < Lib.len8tab.size) (hi : i = x / 2 ^ k) (h1 : 1 ≤ i) (hk : k ≤ 56) (hK : K = k) : wrap64 (K + wrap64 ((Lib.len8tab[i]'h).toNat : Int)) = ((Nat.log2 x + 1 : Nat) : Int) := by
  have h2 : i < 256 := by rw [Lib.len8tab_size] at h; exact h
  have hb : Nat.log2 i < 8 := (Nat.log2_lt (by omega)).2 (by omega)
  rw [tab8_at i h h1, IntWalk.wrap64_in ((Nat.log2 i + 1 : Nat) : Int) ⟨by omega, by omega⟩, IntWalk.wrap64_in _ ⟨by omega, by omega⟩, log2_cut x k (by rw [← hi]; exact h1), ← hi, hK]
  omega

set_option maxRecDepth 100000 in
set_option maxHeartbeats 4000000 in
theorem len64_any (x : Nat) (w : World) (h1 : 1 ≤ x) (h2 : x < 18446744073709551616) :
    Calls Tryd.prog 87 #[.int .u64 x] w fun e w' => e = .returned (.int .i64 ((Nat.log2 x + 1 : Nat) : Int)) ∧ w' = w := by
  obtain ⟨X, hX0⟩ : ∃ X : Int, X = (x : Int) := ⟨_, rfl⟩
  have hX := Lib.hid hX0
  have h0' : 0 ≤ X := by omega
  have h2' : X ≤ 18446744073709551615 := by omega
  have H1 := Lib.hid h1
  have hsz : Lib.len8tab.size = 256 := Lib.len8tab_size
  rw [← hX0]
  clear hX0 h1 h2
  go_enter Tryd.func87, Tryd.ntmps87
  go_wp2
  all_goals (go_ret; refine ⟨congrArg Ending.returned (congrArg (Value.int IntKind.i64) ?_), rfl⟩)
  all_goals have h1' := H1.out
  all_goals have hXx := hX.out
  · exact len8_close (k := 56) _ (by omega) (by omega) (by decide) rfl
  · exact len8_close (k := 48) _ (by omega) (by omega) (by decide) rfl
  · exact len8_close (k := 40) _ (by omega) (by omega) (by decide) rfl
  · exact len8_close (k := 32) _ (by omega) (by omega) (by decide) rfl
  · exact len8_close (k := 24) _ (by omega) (by omega) (by decide) rfl
  · exact len8_close (k := 16) _ (by omega) (by omega) (by decide) rfl
  · exact len8_close (k := 8) _ (by omega) (by omega) (by decide) rfl
  · have h := len8_close (x := x) (k := 0) (i := X.toNat) (K := 0) (by omega) (by omega) (by omega) (by decide) rfl
    rw [Int.zero_add] at h
    rw [← h]

set_option maxRecDepth 100000 in
set_option maxHeartbeats 1000000 in
theorem len_any (x : Nat) (w : World) (h1 : 1 ≤ x) (h2 : x < 18446744073709551616) :
    Calls Tryd.prog 73 #[.int .u64 x] w fun e w' => e = .returned (.int .i64 ((Nat.log2 x + 1 : Nat) : Int)) ∧ w' = w := by
  have H := Lib.hid (len64_any x w h1 h2)
  obtain ⟨X, hX0⟩ : ∃ X : Int, X = (x : Int) := ⟨_, rfl⟩
  rw [← hX0] at H ⊢
  generalize (((Nat.log2 x + 1 : Nat) : Int)) = L at H ⊢
  have h0' : 0 ≤ X := by omega
  have h2' : X ≤ 18446744073709551615 := by omega
  clear hX0 h1 h2
  go_enter Tryd.func73, Tryd.ntmps73
  go_wp2_with fail
  refine H.out.mono ?_
  rintro e w' ⟨rfl, rfl⟩
  go_wp2_with fail
  go_ret
  exact ⟨rfl, rfl⟩

set_option maxRecDepth 100000 in
set_option maxHeartbeats 1000000 in
theorem firstSize_any (n : Nat) (w : World) (h1 : 2 ≤ n) (h2 : n ≤ 140737488355328) :
    Calls Tryd.prog 49 #[.int .i64 n] w fun e w' => e = .returned (.int .i64 (Mk.ksz n : Nat)) ∧ w' = w := by
  have H := Lib.hid (len_any (n - 1) w (by omega) (by omega))
  have hk : Mk.ksz n < n := Mk.ksz_lt h1
  have hj : Nat.log2 (n - 1) < 48 := (Nat.log2_lt (by omega)).2 (by omega)
  have hkz : Hid ((Mk.ksz n : Int) = 2 ^ Nat.log2 (n - 1)) := by show _ = _; unfold Mk.ksz; simp
  obtain ⟨k, hk0⟩ : ∃ k, k = Mk.ksz n := ⟨_, rfl⟩
  rw [← hk0] at hkz hk ⊢
  clear hk0
  generalize Nat.log2 (n - 1) = j at H hj hkz
  have e1 : (n : Int) - 1 = ((n - 1 : Nat) : Int) := by omega
  have e2 : IntKind.i64.wrap ((n - 1 : Nat) : Int) = ((n - 1 : Nat) : Int) := by rw [IntKind.wrap_i64]; omega
  have e3 : IntKind.u64.wrap ((n - 1 : Nat) : Int) = ((n - 1 : Nat) : Int) := by rw [IntKind.wrap_u64]; omega
  have e4 : ((j + 1 : Nat) : Int) - 1 = (j : Int) := by omega
  have e5 : (2 : Int) ^ j = (k : Int) := hkz.out.symm
  have e6 : IntKind.i64.wrap (k : Int) = (k : Int) := by rw [IntKind.wrap_i64]; omega
  go_enter Tryd.func49, Tryd.ntmps49
  go_wp2_with fail
  refine H.out.mono ?_
  rintro e w' ⟨rfl, rfl⟩
  go_wp2_with fail
  go_ret
  exact ⟨rfl, rfl⟩

/-- A list of digests, its bytes one behind the other. -/
def flat (L : List (List UInt8)) : List UInt8 := L.flatMap id
/-- All of them have 16 bytes. -/
def D16 (L : List (List UInt8)) : Prop := ∀ d ∈ L, d.length = 16
theorem flat_len : ∀ (L : List (List UInt8)), D16 L → (flat L).length = 16 * L.length
  | [], _ => rfl
  | d :: L, h => by
    have ih := flat_len L fun x hx => h x (List.mem_cons_of_mem _ hx)
    have h1 := h d (List.mem_cons_self ..)
    unfold flat at ih ⊢
    rw [List.flatMap_cons, List.length_append, ih, List.length_cons]
    simp only [id_eq]
    omega
theorem D16.take {L : List (List UInt8)} (h : D16 L) (k : Nat) : D16 (L.take k) := fun d hd => h d (List.mem_of_mem_take hd)
theorem D16.drop {L : List (List UInt8)} (h : D16 L) (k : Nat) : D16 (L.drop k) := fun d hd => h d (List.mem_of_mem_drop hd)
theorem flat_append (a b : List (List UInt8)) : flat (a ++ b) = flat a ++ flat b := by unfold flat; rw [List.flatMap_append]
theorem flat_take {L : List (List UInt8)} (h : D16 L) (k : Nat) : (flat L).take (16 * k) = flat (L.take k) := by
  by_cases hk : k ≤ L.length
  · have e : flat L = flat (L.take k) ++ flat (L.drop k) := by rw [← flat_append, List.take_append_drop]
    have hl := flat_len _ (h.take k)
    rw [List.length_take, Nat.min_eq_left hk] at hl
    rw [e, ← hl, List.take_left']
    rfl
  · rw [List.take_of_length_le (by rw [flat_len L h]; omega), List.take_of_length_le (by omega)]
theorem flat_drop {L : List (List UInt8)} (h : D16 L) (k : Nat) : (flat L).drop (16 * k) = flat (L.drop k) := by
  by_cases hk : k ≤ L.length
  · have e : flat L = flat (L.take k) ++ flat (L.drop k) := by rw [← flat_append, List.take_append_drop]
    have hl := flat_len _ (h.take k)
    rw [List.length_take, Nat.min_eq_left hk] at hl
    rw [e, ← hl, List.drop_left']
    rfl
  · rw [List.drop_eq_nil_of_le (by rw [flat_len L h]; omega), List.drop_eq_nil_of_le (by omega)]
    rfl
theorem flat_one (d : List UInt8) : flat [d] = d := by simp [flat]

/-- The digests L lie at A. -/
def Dg (w : World) (A : Option Addr) (L : List (List UInt8)) : Prop := Rds w w.heap.size A ((flat L).map bv)
theorem Dg.on {w w' : World} {A : Option Addr} {L : List (List UInt8)} (h : Dg w A L) (hb : Below w.heap.size w w') : Dg w' A L := (Rds.below h hb).more hb.size
theorem Dg.take {w : World} {A : Option Addr} {L : List (List UInt8)} (h : Dg w A L) (hd : D16 L) (k : Nat) : Dg w A (L.take k) := by
  have := Rds.take h (16 * k)
  rw [← List.map_take, flat_take hd] at this
  exact this
theorem Dg.drop {w : World} {ad : Addr} {L : List (List UInt8)} (h : Dg w (some ad) L) (hd : D16 L) (k : Nat) : Dg w (some (ad.add (16 * k))) (L.drop k) := by
  have := Rds.drop h (16 * k)
  rw [← List.map_drop, flat_drop hd] at this
  exact this

set_option maxRecDepth 100000 in
set_option maxHeartbeats 1000000 in
theorem parts_any (n k c : Nat) (ad : Addr) (w : World) (hk : k = Mk.ksz n) (h1 : 2 ≤ n) (h2 : n ≤ 140737488355328) (hc : n ≤ c) :
    Calls Tryd.prog 33 #[.slice (some ad) n c] w fun e w' => e = .returned (.tuple #[.slice (some ad) k k, .slice (some (ad.add (16 * k))) (n - k) (n - k)]) ∧ Below w.heap.size w w' := by
  have H := Lib.hid (firstSize_any n w h1 h2)
  have hkn : k < n := by rw [hk]; exact Mk.ksz_lt h1
  have hkp : 0 < k := by rw [hk]; exact Mk.ksz_pos n
  rw [← hk] at H
  have hkc : k ≤ c := by omega
  have hkn' : k ≤ n := by omega
  have hne : ¬ n = k := by omega
  have e16 : k * 16 = 16 * k := Nat.mul_comm _ _
  clear hk
  go_enter Tryd.func33, Tryd.ntmps33
  go_wp2_with fail
  refine H.out.mono ?_
  rintro e w' ⟨rfl, rfl⟩
  go_wp2_with fail
  refine wp_region_planL 99 [(true, 0), (true, 1), (true, 2), (true, 3), (true, 4), (true, 5), (true, 6), (true, 7), (true, 8), (true, 9), (true, 10)] (by kernel_rfl) (by decide) (by kernel_rfl) (by kernel_rfl) (by kernel_rfl) (by decide) (by intro c a d v w h; cases d <;> exact h) ?_
  change wpPlanL _ _ _ _ _ _ w'.drew
  iterate 11 (refine wpPlanL_plain rfl (fun K hK => ?_); go_simp; refine hK _ ?_; clear hK K)
  refine wpPlanL_nil ?_
  go_wp2_with fail
  go_ret2
  exact ⟨rfl, (Below.refl _ _).drew⟩
end Go.Proofs.YtlgokfgiemaklaaDoor

namespace Go.Proofs.YtlgokfgiemaklaaDoor
set_option linter.unusedVariables false
set_option linter.unusedSimpArgs false
open Go.RowKit

def rt (L : List (List UInt8)) : List UInt8 := Mk.root nd emp L
theorem rt_nil : rt [] = emp := Mk.root_nil nd emp
theorem rt_one (d : List UInt8) : rt [d] = d := Mk.root_one nd emp d
theorem rt_two {L : List (List UInt8)} (h : 2 ≤ L.length) : rt L = nd (rt (L.take (Mk.ksz L.length))) (rt (L.drop (Mk.ksz L.length))) := Mk.root_two nd emp h
theorem rt_len {L : List (List UInt8)} (h : D16 L) : (rt L).length = 16 := by
  match L, h with
  | [], _ => rw [rt_nil]; exact emp_len
  | [d], h => rw [rt_one]; exact h d (by simp)
  | a :: b :: L, _ => rw [rt_two (by simp)]; exact nd_len _ _

set_option maxRecDepth 100000 in
set_option maxHeartbeats 1000000 in
theorem root_nil_any (c : Nat) (A : Option Addr) (w : World) (ht : Tab 2 w) :
    Calls Tryd.prog 15 #[.slice A 0 c] w fun e w' => e = .returned (av emp) ∧ Below w.heap.size w w' := by
  have HO : Hid (∀ W, Tab 2 W → Calls Tryd.prog 37 #[.int .i64 32, .slice none 0 0] W fun e w' => e = .returned (av emp) ∧ Below W.heap.size W w') := fun W hT => of_any 32 [] none 0 W Rds.empty (by decide) (by decide) hT
  have hT := Lib.hid ht
  obtain ⟨D, hD⟩ : ∃ D, D = emp := ⟨_, rfl⟩
  have hDl : (D.map bv).length = 16 := by rw [List.length_map, hD]; exact emp_len
  have hDs := Lib.hid (size_dig16 _ hDl)
  have hDo := av_one D
  rw [← hD] at HO ⊢
  clear hD ht
  unfold av at HO ⊢
  obtain ⟨W1, hW1⟩ : ∃ W1, W1 = w.alloc (.cells (bz 16).toArray 31) := ⟨_, rfl⟩
  have hB1 : Hid (Below w.heap.size w W1) := by show Below _ _ _; rw [hW1]; exact (Below.refl _ _).alloc (Nat.le_refl _) _
  have hR1 : Hid (Blk W1 w.heap.size (bz 16) 31) := by show Blk _ _ _ _; rw [hW1]; exact Blk.new _ _ _
  have hW1' := Lib.hid hW1
  clear hW1
  go_enter Tryd.func15, Tryd.ntmps15
  go_wp2_with fail
  generalize hg : w.alloc _ = Wg
  have hgW : W1 = Wg := by rw [← hg, hW1'.out]; rfl
  clear hg hW1'
  subst hgW
  refine (HO.out _ (hT.out.on hB1.out)).mono ?_
  rintro e w3 ⟨rfl, hb3⟩
  have hR3 := hR1.out.below hb3 hR1.out.lt
  go_wp2_with (refine wpList_row_store rfl 31 _ _ rfl (D.map bv) rfl rfl hR3 hDs.out (by rw [hDl]; rfl) hDo ?_; intro w4 hW4 ho4)
  exact bodyPost_ret (ret_blk rfl _ w4 (g := w.heap.size) rfl hW4.out (.array 16 5) arr_dig rfl hDs.out) rfl ⟨rfl, (hB1.out.trans (hb3.mono hB1.out.size)).trans (ho4.below (Nat.le_refl _))⟩

set_option maxRecDepth 100000 in
set_option maxHeartbeats 1000000 in
theorem root_one_any (d : List UInt8) (hd : d.length = 16) (c : Nat) (A : Option Addr) (w : World) (hA : Dg w A [d]) :
    Calls Tryd.prog 15 #[.slice A 1 c] w fun e w' => e = .returned (av d) ∧ Below w.heap.size w w' := by
  have hdl : (d.map bv).length = 16 := by rw [List.length_map, hd]
  have hDs := Lib.hid (size_dig16 _ hdl)
  have hDo := av_one d
  unfold Dg at hA
  rw [flat_one] at hA
  obtain ⟨ad, rfl, hab, hcell0⟩ := hA (by intro h; rw [h] at hdl; cases hdl)
  have hcell : Hid (∀ (o : Obj) (j : Nat) (v : Value), (d.map bv)[j]? = some v → (w.alloc o).cell? (ad.add j) = some v) := fun o j v hv =>
    (World.cell?_alloc_lt w o _ (by rw [add_block]; exact hab)).trans (hcell0 j v hv)
  have hB1 : Hid (∀ o, Below w.heap.size w (w.alloc o)) := fun o => (Below.refl _ _).alloc (Nat.le_refl _) _
  have hR1 : Hid (Blk (w.alloc (.cells (bz 16).toArray 31)) w.heap.size (bz 16) 31) := Blk.new _ _ _
  unfold av
  clear hA hcell0 hd
  go_enter Tryd.func15, Tryd.ntmps15
  go_wp2_with (first | (refine wpList_load_arr rfl 31 _ rfl ad rfl (d.map bv) 16 5 (hcell.out _) arr_dig hDs.out ?_) | (refine wpList_row_store rfl 31 _ _ rfl (d.map bv) rfl rfl hR1.out hDs.out (by rw [hdl]; rfl) hDo ?_; intro w4 hW4 ho4))
  exact bodyPost_ret (ret_blk rfl _ w4 (g := w.heap.size) rfl hW4.out (.array 16 5) arr_dig rfl hDs.out) rfl ⟨rfl, (hB1.out _).trans (ho4.below (Nat.le_refl _))⟩

set_option maxRecDepth 100000 in
set_option maxHeartbeats 1000000 in
theorem root_up (N : Nat) : ∀ (L : List (List UInt8)) (A : Option Addr) (c : Nat) (w : World), L.length ≤ N → D16 L → L.length ≤ c → L.length ≤ 140737488355328 → Dg w A L → Tab 2 w →
    Calls Tryd.prog 15 #[.slice A L.length c] w fun e w' => e = .returned (av (rt L)) ∧ Below w.heap.size w w' := by
  induction N with
  | zero =>
    intro L A c w hl _ _ _ _ ht
    obtain rfl : L = [] := List.eq_nil_of_length_eq_zero (by omega)
    rw [rt_nil]
    exact root_nil_any c A w ht
  | succ N ih =>
    intro L A c w hl hd hc h47 hA ht
    match L, hl, hd, hc, h47, hA with
    | [], _, _, _, _, _ =>
      rw [rt_nil]
      exact root_nil_any c A w ht
    | [d], _, hd, _, _, hA =>
      rw [rt_one]
      exact root_one_any d (hd d (by simp)) c A w hA
    | a :: b :: L', hl, hd, hc, h47, hA =>
      obtain ⟨L, hL⟩ : ∃ L, L = a :: b :: L' := ⟨_, rfl⟩
      have h2 : 2 ≤ L.length := by rw [hL]; simp
      rw [← hL] at hl hd hc h47 hA ⊢
      clear hL
      obtain ⟨ad, rfl, hab, _⟩ := hA.look (k := 0) (u := bv ((flat L).getD 0 0)) (by
        have := flat_len L hd
        rw [List.getElem?_map, List.getElem?_eq_getElem (by omega), List.getD_eq_getElem?_getD, List.getElem?_eq_getElem (by omega)]
        rfl)
      rw [rt_two h2]
      obtain ⟨k, hk⟩ : ∃ k, k = Mk.ksz L.length := ⟨_, rfl⟩
      have hkn : k < L.length := by rw [hk]; exact Mk.ksz_lt h2
      have hkp : 0 < k := by rw [hk]; exact Mk.ksz_pos _
      have HP := Lib.hid (fun W => parts_any L.length k c ad W hk h2 h47 hc)
      rw [← hk]
      have l1 : (L.take k).length = k := by rw [List.length_take]; omega
      have l2 : (L.drop k).length = L.length - k := List.length_drop ..
      have I1 := Lib.hid (fun W hA hT => ih (L.take k) (some ad) k W (by omega) (hd.take k) (by omega) (by omega) hA hT)
      have I2 := Lib.hid (fun W hA hT => ih (L.drop k) (some (ad.add (16 * k))) (L.length - k) W (by omega) (hd.drop k) (by omega) (by omega) hA hT)
      have hA1 := Lib.hid (hA.take hd k)
      have hA2 := Lib.hid (hA.drop hd k)
      rw [l1] at I1
      rw [l2] at I2
      have r1 := rt_len (hd.take k)
      have r2 := rt_len (hd.drop k)
      generalize rt (L.take k) = R1 at I1 r1 ⊢
      generalize rt (L.drop k) = R2 at I2 r2 ⊢
      generalize L.take k = La at I1 hA1
      generalize L.drop k = Lb at I2 hA2
      obtain ⟨n, hn⟩ : ∃ n, n = L.length := ⟨_, rfl⟩
      rw [← hn] at HP I2 h2 hkn ⊢
      have HN := Lib.hid (fun W hT => node_any R1 R2 W r1 r2 hT)
      have hnl := nd_len R1 R2
      generalize nd R1 R2 = D at HN hnl ⊢
      have hDl : (D.map bv).length = 16 := by rw [List.length_map, hnl]
      have hDs := Lib.hid (size_dig16 _ hDl)
      have hDo := av_one D
      have t0 : ((n : Int) == 0) = false := by simp; omega
      have t1 : ((n : Int) == 1) = false := by simp; omega
      unfold av at I1 I2 HN ⊢
      have hT := Lib.hid ht
      obtain ⟨W1, hW1⟩ : ∃ W1, W1 = w.alloc (.cells (bz 16).toArray 31) := ⟨_, rfl⟩
      have hB1 : Hid (Below w.heap.size w W1) := by show Below _ _ _; rw [hW1]; exact (Below.refl _ _).alloc (Nat.le_refl _) _
      have hR1 : Hid (Blk W1 w.heap.size (bz 16) 31) := by show Blk _ _ _ _; rw [hW1]; exact Blk.new _ _ _
      have hW1' := Lib.hid hW1
      clear hW1 hk hn l1 l2 hl hd hc h47 hA ht ih h2 r1 r2 hnl
      go_enter Tryd.func15, Tryd.ntmps15
      go_wp2_with fail
      generalize hg : w.alloc _ = Wg
      have hgW : W1 = Wg := by rw [← hg, hW1'.out]; rfl
      clear hg hW1'
      subst hgW
      refine (HP.out _).mono ?_
      rintro e w2 ⟨rfl, hb2⟩
      have hB2 : Below w.heap.size w w2 := hB1.out.trans (hb2.mono hB1.out.size)
      have hR2 := Lib.hid (hR1.out.below hb2 hR1.out.lt)
      go_wp2_with fail
      refine (I1.out _ (hA1.out.on hB2) (hT.out.on hB2)).mono ?_
      rintro e w3 ⟨rfl, hb3⟩
      have hB3 : Below w.heap.size w w3 := hB2.trans (hb3.mono hB2.size)
      have hR3 := Lib.hid (hR2.out.below hb3 hR2.out.lt)
      clear hb2 hb3 hB1 hB2 hR1 hR2
      go_wp2_with fail
      refine (I2.out _ (hA2.out.on hB3) (hT.out.on hB3)).mono ?_
      rintro e w4 ⟨rfl, hb4⟩
      have hB4 : Below w.heap.size w w4 := hB3.trans (hb4.mono hB3.size)
      have hR4 := Lib.hid (hR3.out.below hb4 hR3.out.lt)
      clear hb4 hB3 hR3
      go_wp2_with fail
      refine (HN.out _ (hT.out.on hB4)).mono ?_
      rintro e w5 ⟨rfl, hb5⟩
      have hB5 : Below w.heap.size w w5 := hB4.trans (hb5.mono hB4.size)
      have hR5 := hR4.out.below hb5 hR4.out.lt
      clear hb5 hB4 hR4
      go_wp2_with (refine wpList_row_store rfl 31 _ _ rfl (D.map bv) rfl rfl hR5 hDs.out (by rw [hDl]; rfl) hDo ?_; intro w6 hW6 ho6)
      exact bodyPost_ret (ret_blk rfl _ w6 (g := w.heap.size) rfl hW6.out (.array 16 5) arr_dig rfl hDs.out) rfl ⟨rfl, hB5.trans (ho6.below (Nat.le_refl _))⟩
theorem root_any (L : List (List UInt8)) (A : Option Addr) (c : Nat) (w : World) (hd : D16 L) (hc : L.length ≤ c) (h47 : L.length ≤ 140737488355328) (hA : Dg w A L) (ht : Tab 2 w) :
    Calls Tryd.prog 15 #[.slice A L.length c] w fun e w' => e = .returned (av (rt L)) ∧ Below w.heap.size w w' := root_up L.length L A c w (Nat.le_refl _) hd hc h47 hA ht
end Go.Proofs.YtlgokfgiemaklaaDoor

namespace Go.Proofs.YtlgokfgiemaklaaDoor
set_option linter.unusedVariables false
set_option linter.unusedSimpArgs false
open Go.RowKit

set_option maxHeartbeats 1000000 in
theorem split_any (n : Nat) (w : World) (h1 : 2 ≤ n) (h2 : n ≤ 140737488355328) :
    Calls Tryd.prog 39 #[.int .i64 n] w fun e w' => e = .returned (.int .i64 (Mk.ksz n : Nat)) ∧ w' = w := by
  go_enter Tryd.func39, Tryd.ntmps39
  go_wp2_with fail
  go_loopw [3] (fun v wr => ∃ k j : Nat, v = .int .i64 k ∧ k = 2 ^ j ∧ k < n ∧ wr = w) (fun v _ => n - (intOf v).toNat)
  case atStart => exact ⟨1, 0, rfl, rfl, by omega, rfl⟩
  case round =>
    obtain ⟨k, j, rfl, hk0, hkn, rfl⟩ := hrel
    have hk := Lib.hid hk0
    have hkp : Hid (0 < k) := by show 0 < k; rw [hk0]; exact Nat.two_pow_pos j
    clear hk0
    by_cases hlt : 2 * k < n
    · have t : 2 * (k : Int) < n := by omega
      go_wp2_with fail
      go_roundw
      case rel => exact ⟨2 * k, j + 1, by go_num, by rw [hk.out, Nat.pow_succ, Nat.mul_comm], hlt, trivial⟩
      case measure => have := hkp.out; simp [intOf]; omega
    · have t : ¬ 2 * (k : Int) < n := by omega
      have e := Lib.hid (Mk.ksz_of hk.out hkn (by omega))
      go_wp2_with fail
      go_ret
      exact ⟨by rw [e.out]; rfl, rfl⟩

set_option maxRecDepth 100000 in
set_option maxHeartbeats 1000000 in
theorem refEmpty_any (w : World) (ht : Tab 3 w) :
    Calls Tryd.prog 38 #[] w fun e w' => e = .returned (av emp) ∧ Below w.heap.size w w' := by
  have HO : Hid (∀ W, Tab 3 W → Calls Tryd.prog 40 #[.int .i64 32, .slice none 0 0] W fun e w' => e = .returned (av emp) ∧ Below W.heap.size W w') := fun W hT => refOf_of refSum 32 [] none 0 W Rds.empty (by decide) (by decide) hT
  have hT := Lib.hid ht
  obtain ⟨D, hD⟩ : ∃ D, D = emp := ⟨_, rfl⟩
  have hDl : (D.map bv).length = 16 := by rw [List.length_map, hD]; exact emp_len
  have hDs := Lib.hid (size_dig16 _ hDl)
  have hDo := av_one D
  rw [← hD] at HO ⊢
  clear hD ht
  unfold av at HO ⊢
  obtain ⟨W1, hW1⟩ : ∃ W1, W1 = w.alloc (.cells (bz 16).toArray 31) := ⟨_, rfl⟩
  have hB1 : Hid (Below w.heap.size w W1) := by show Below _ _ _; rw [hW1]; exact (Below.refl _ _).alloc (Nat.le_refl _) _
  have hR1 : Hid (Blk W1 w.heap.size (bz 16) 31) := by show Blk _ _ _ _; rw [hW1]; exact Blk.new _ _ _
  have hW1' := Lib.hid hW1
  clear hW1
  go_enter Tryd.func38, Tryd.ntmps38
  go_wp2_with fail
  generalize hg : w.alloc _ = Wg
  have hgW : W1 = Wg := by rw [← hg, hW1'.out]; rfl
  clear hg hW1'
  subst hgW
  refine (HO.out _ (hT.out.on hB1.out)).mono ?_
  rintro e w3 ⟨rfl, hb3⟩
  have hR3 := hR1.out.below hb3 hR1.out.lt
  go_wp2_with (refine wpList_row_store rfl 31 _ _ rfl (D.map bv) rfl rfl hR3 hDs.out (by rw [hDl]; rfl) hDo ?_; intro w4 hW4 ho4)
  exact bodyPost_ret (ret_blk rfl _ w4 (g := w.heap.size) rfl hW4.out (.array 16 5) arr_dig rfl hDs.out) rfl ⟨rfl, (hB1.out.trans (hb3.mono hB1.out.size)).trans (ho4.below (Nat.le_refl _))⟩

theorem load_arr_run {P : Program} {o : Oper} {a : Act} (ty : TypeId) (x : Operand) (ho : o.op = .load ty x) (ad : Addr) (hx : a.eval x = .pointer (some ad)) (cs : List Value) (n : Nat) (e : TypeId) (W : World) (hc : ∀ j v, cs[j]? = some v → W.cell? (ad.add j) = some v)
    (hu : P.underlying ty = some (.array n e)) (hi : (P.info? ty).map (·.size) = some cs.length) : (execOp a.eval o).run P W = .ok (.value (.agg cs.toArray)) W := by
  have hl : (loadCells ad cs.length).run P W = .ok cs.toArray W := run_loadCells_list (P := P) W ad cs hc
  have hv : (loadVar ty ad).run P W = .ok (.agg cs.toArray) W := by
    cases hq : P.info? ty with
    | none => simp [hq] at hi
    | some i =>
      have hs : i.size = cs.length := by simpa [hq] using hi
      have hagg : (isAgg ty).run P W = .ok true W := by
        unfold isAgg
        rw [Sem.run_bind, run_underlying hu W]
        simp
      simp [loadVar, Sem.run_bind, hagg, sizeOf, typeInfo, hq, hs, hl]
  unfold execOp
  simp only [ho, hx, Instr.loadAt, Instr.sureAddr, Sem.run_bind, Sem.run_pure, Result.andThen_ok, hv]
theorem neql_run {o : Oper} {a : Act} (t : TypeId) (x y : Operand) (k : TypeId) (ho : o.op = .binOp .neq t x y k)
    (n : Nat) (harr : Tryd.prog.underlying t = some (.array n 5)) (hg : Tryd.prog.eqGuardType Tryd.prog.depth t = false) (la lb : List UInt8) (ha : la.length = n) (hb : lb.length = n) (hx : a.eval x = .agg (la.map bv).toArray) (hy : a.eval y = .agg (lb.map bv).toArray) (r : Bool) (hr0 : (la == lb) = r) (W : World) :
    (execOp a.eval o).run Tryd.prog W = .ok (.value (.bool (!r))) W := by
  obtain ⟨i1, hi1, _, hz1', _⟩ := info_parts infoByte
  have hc : Tryd.prog.cellsOf 5 = 1 := by kernel_rfl
  have hr : (binOp .neq t (.agg (la.map bv).toArray) (.agg (lb.map bv).toArray)).run Tryd.prog W = .ok (.bool (!r)) W := by
    rw [run_neq_struct, show 10000 = 9999 + 1 from rfl, run_equalIn_array W 9999 _ _ harr hi1, hc, show 9999 = 9998 + 1 from rfl,
      run_eqItems_bytes 9998 la lb W (List.range n) (fun i hi => by have := List.mem_range.1 hi; omega), all_range_eq la lb n ha hb, hr0]
    rfl
  have hg : (eqGuard .neq t x y (.agg (la.map bv).toArray) (.agg (lb.map bv).toArray)).run Tryd.prog W = .ok () W := run_eqGuard_agg W .neq t x y _ _ hg
  unfold execOp
  simp only [ho, hx, hy, Sem.run_bind, Sem.run_pure, Result.andThen_ok, hr, hg]
/-- The k-th digest, where it lies. -/
theorem Dg.at {w : World} {A : Option Addr} {L : List (List UInt8)} (h : Dg w A L) (hd : D16 L) {k : Nat} {d : List UInt8} (hk : L[k]? = some d) : ∃ ad, A = some ad ∧ ad.block < w.heap.size ∧ d.length = 16 ∧ ∀ j v, (d.map bv)[j]? = some v → w.cell? ((ad.add (k * 16)).add j) = some v := by
  have hlt := (List.getElem?_eq_some_iff.1 hk).1
  have hdl : d.length = 16 := hd d (List.mem_of_getElem? hk)
  obtain ⟨ad, rfl, hb, hc⟩ := h (by intro h0; have := congrArg List.length h0; rw [List.length_map, flat_len L hd] at this; simp at this; omega)
  refine ⟨ad, rfl, hb, hdl, fun j v hv => ?_⟩
  rw [add_twice]
  apply hc
  have hj : j < 16 := by have := (List.getElem?_eq_some_iff.1 hv).1; rw [List.length_map, hdl] at this; exact this
  have e1 : flat (L.drop k) = d ++ flat (L.drop (k + 1)) := by
    rw [List.drop_eq_getElem_cons hlt, (List.getElem?_eq_some_iff.1 hk).2]
    unfold flat
    rw [List.flatMap_cons]
    rfl
  have e2 := flat_drop hd k
  rw [List.getElem?_map] at hv ⊢
  rw [show k * 16 + j = 16 * k + j by omega, ← List.getElem?_drop, e2, e1, List.getElem?_append_left (by omega)]
  exact hv

set_option maxRecDepth 100000 in
set_option maxHeartbeats 1000000 in
theorem same03_any (la lb : List (List UInt8)) (A A' : Option Addr) (c c' : Nat) (w : World) (ha : Dg w A la) (hb : Dg w A' lb) (da : D16 la) (db : D16 lb) (hl : la.length ≤ 1000000000000) :
    Calls Tryd.prog 17 #[.slice A la.length c, .slice A' lb.length c'] w fun e w' => e = .returned (.bool (la == lb)) ∧ Below w.heap.size w w' := by
  by_cases hlen : la.length = lb.length
  · have t : ((la.length : Int) != (lb.length : Int)) = false := by simp; omega
    have hle : lb.length ≤ la.length := by omega
    have hge : la.length ≤ lb.length := by omega
    have HA := Lib.hid ha
    have HB := Lib.hid hb
    clear hlen ha hb
    go_enter Tryd.func17, Tryd.ntmps17
    go_wp2_with fail
    go_loopw [5] (fun i wr => ∃ k : Nat, k ≤ la.length ∧ i = .int .i64 k ∧ Below w.heap.size w wr ∧ la.take k = lb.take k) (fun i _ => la.length - (intOf i).toNat)
    case atStart => exact ⟨0, by omega, rfl, Below.refl _ _, rfl⟩
    case round =>
      obtain ⟨k, hk, rfl, hbw, heq0⟩ := hrel
      have heq := Lib.hid heq0
      clear heq0
      by_cases hlt : k < la.length
      · have hlt2 : k < lb.length := by omega
        obtain ⟨x, hx⟩ : ∃ x, la[k]? = some x := ⟨_, List.getElem?_eq_getElem hlt⟩
        obtain ⟨y, hy⟩ : ∃ y, lb[k]? = some y := ⟨_, List.getElem?_eq_getElem hlt2⟩
        have G1 := Lib.hid hx
        have G2 := Lib.hid hy
        obtain ⟨ad, rfl, hab, hxl, hca⟩ := (HA.out.on hbw).at da hx
        obtain ⟨bd, rfl, hbb, hyl, hcb⟩ := (HB.out.on hbw).at db hy
        have CA : Hid (∀ q : ExtOf wr.drew, ∀ j v, (x.map bv)[j]? = some v → q.world.cell? ((ad.add (k * 16)).add j) = some v) := fun q j v hv => by
          rw [(q.below (Nat.le_refl _)).cell (p := (ad.add (k * 16)).add j) (by rw [add_block, add_block]; exact hab)]
          exact hca j v hv
        have CB : Hid (∀ q : ExtOf wr.drew, ∀ j v, (y.map bv)[j]? = some v → q.world.cell? ((bd.add (k * 16)).add j) = some v) := fun q j v hv => by
          rw [(q.below (Nat.le_refl _)).cell (p := (bd.add (k * 16)).add j) (by rw [add_block, add_block]; exact hbb)]
          exact hcb j v hv
        have hxm : (x.map bv).length = 16 := by rw [List.length_map, hxl]
        have hym : (y.map bv).length = 16 := by rw [List.length_map, hyl]
        have hxs := Lib.hid (size_dig16 _ hxm)
        have hys := Lib.hid (size_dig16 _ hym)
        have b1 : 0 ≤ (k : Int) := by omega
        have b2 : (k : Int) < (la.length : Int) := by omega
        have b3 : (k : Int) < (lb.length : Int) := by omega
        clear hx hy hca hcb
        obtain ⟨r, hr⟩ : ∃ r, (x == y) = r := ⟨_, rfl⟩
        have hr' := Lib.hid hr
        go_wp2_with fail
        refine wp_region_planL 99 [(true, 0), (true, 1), (true, 2), (true, 3), (true, 4), (true, 5), (true, 6), (true, 7), (true, 8)] (by kernel_rfl) (by decide) (by kernel_rfl) (by kernel_rfl) (by kernel_rfl) (by decide) (by intro c a d v w h; cases d <;> exact h) ?_
        change wpPlanL _ _ _ _ _ _ wr.drew
        iterate 3 (refine wpPlanL_plain rfl (fun K hK => ?_); go_simp; refine hK _ ?_; clear hK K)
        refine wpPlanL_runW rfl (by rfl) _ (fun q => load_arr_run 31 _ rfl _ rfl (x.map bv) 16 5 q.world (CA.out q) arr_dig hxs.out) ?_
        iterate 3 (refine wpPlanL_plain rfl (fun K hK => ?_); go_simp; refine hK _ ?_; clear hK K)
        refine wpPlanL_runW rfl (by rfl) _ (fun q => load_arr_run 31 _ rfl _ rfl (y.map bv) 16 5 q.world (CB.out q) arr_dig hys.out) ?_
        refine wpPlanL_runW rfl (by rfl) _ (fun q => neql_run 31 _ _ _ rfl 16 arr_dig (by kernel_rfl) x y hxl hyl rfl rfl r hr'.out q.world) ?_
        refine wpPlanL_nil ?_
        cases r with
        | true =>
          have hxy : x = y := by simpa using hr
          have hn := Lib.hid (take_eq_snoc G1.out (by rw [hxy]; exact G2.out) heq.out)
          clear hxy hr hr'
          go_wp2_with fail
          go_roundw
          case rel => exact ⟨k + 1, by omega, by go_num, hbw.drew, hn.out⟩
          case measure => simp [intOf]; omega
        | false =>
          have hne : Hid ((la == lb) = false) := by
            show _ = _
            rw [beq_eq_false_iff_ne]
            rintro rfl
            have := G1.out.symm.trans G2.out
            injection this with this
            simp [this] at hr
          clear hr hr'
          go_wp2_with fail
          go_ret
          exact ⟨by rw [hne.out]; rfl, hbw.drew⟩
      · have hE : Hid ((la == lb) = true) := by
          show _ = _
          rw [beq_iff_eq]
          have := heq.out
          rwa [List.take_of_length_le (by omega), List.take_of_length_le (by omega)] at this
        go_wp2_with fail
        go_ret
        exact ⟨by rw [hE.out]; rfl, hbw⟩
  · have t : ((la.length : Int) != (lb.length : Int)) = true := by simp; omega
    have hne : Hid ((la == lb) = false) := by
      show _ = _
      rw [beq_eq_false_iff_ne]
      rintro rfl
      exact hlen rfl
    clear hlen
    go_enter Tryd.func17, Tryd.ntmps17
    go_wp2_with fail
    go_ret
    exact ⟨by rw [hne.out]; rfl, Below.refl _ _⟩
end Go.Proofs.YtlgokfgiemaklaaDoor
