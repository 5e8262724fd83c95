/-
  Stage 10 (domain): the iterators over the members of a domain and over the pieces of a layout.
-/
import Derived.Test.YtelcaddgkjkegaaDmk
import Derived.RangeFuncBox
import Derived.RangeFuncLeaves
import Derived.RangeFuncBound
import Derived.RangeFuncNested
import Derived.RangeFuncCalls
import Derived.Shelf.Abstract
import Derived.Shelf.RegionOpen
import Derived.WalkKit
import Derived.OwnWalkIn
import Derived.TacticsInMore
import Derived.LoopNIn
import Derived.LoopIn
import Derived.Sort.QuietIn
import Derived.Stop.RegionWithIn
namespace Go.Proofs.Ytelcaddgkjkegaa
set_option linter.unusedVariables false
set_option linter.unusedSimpArgs false
open Go.RowKit Go.Shelf
attribute [local go_sem] Oper.semAt_some

/-- What a round keeps: what was below B, each block that holds no integers and no slice of them, and the named blocks. -/
def KeepI (B : Nat) (bs : List Nat) (w W : World) : Prop := KeepT B w W ∧ ∀ b ∈ bs, W.heap[b]? = w.heap[b]?
theorem KeepI.refl (B : Nat) (bs : List Nat) (w : World) : KeepI B bs w w := ⟨KeepT.refl _ _, fun _ _ => rfl⟩
theorem KeepI.trans {B : Nat} {bs : List Nat} {a b c : World} (h : KeepI B bs a b) (k : KeepI B bs b c) : KeepI B bs a c := ⟨h.1.trans k.1, fun b hb => (k.2 b hb).trans (h.2 b hb)⟩
theorem keepI_t {B : Nat} {bs : List Nat} {a b c : World} (h : KeepI B bs a b) (k : KeepI B bs b c) : KeepI B bs a c := h.trans k
theorem KeepI.of {B : Nat} {bs : List Nat} {w W : World} (h : Below w.heap.size w W) (hB : B ≤ w.heap.size) (hb : ∀ b ∈ bs, b < w.heap.size) : KeepI B bs w W := ⟨KeepT.of h hB, fun b hh => h.block b (hb b hh)⟩
theorem KeepI.blk {B : Nat} {bs : List Nat} {w W : World} (h : KeepI B bs w W) {b : Nat} (hb : b ∈ bs) {L : List Value} {t : TypeId} (hk : Blk w b L t) : Blk W b L t := (h.2 b hb).trans hk
theorem keepI_b {B : Nat} {bs : List Nat} {w : World} (hB : B ≤ w.heap.size) (hb : ∀ b ∈ bs, b < w.heap.size) (W : World) (l : Nat) (o o' : Obj) (hl : w.heap.size ≤ l) (h : W.heap[l]? = some o) (ho : o.isCells = false) (hw : o.isWalk = false) : KeepI B bs W (W.putObj l o') := by
  refine ⟨⟨belowK_b hB W l o o' hl h ho hw, fun g L t _ _ hk => ?_⟩, fun b hh => ?_⟩
  · have hne : g ≠ l := by
      rintro rfl
      unfold Blk at hk
      rw [hk] at h
      injection h with h
      subst h
      cases ho
    exact (World.putObj_heap_other hne).trans hk
  · exact World.putObj_heap_other (by have := hb b hh; omega)

section
variable {F : Fence} {n : Nat} {P : Program} {w : World} {ops : Array Oper} {rest : List Oper} {op : Oper} {a : Act} {Q : Exit → Act → World → Prop}
theorem wpListIn_blkD (hgd : op.guard = none) (ty : TypeId) (x : Operand) (ho : op.op = .load ty x) {g : Nat} {L : List Value} {t : TypeId} (o : Nat) (hx : a.eval x = .pointer (some ⟨g, o, none⟩))
    (hb : Blk w g L t) (cs : List Value) (hcs : (L.drop o).take cs.length = cs) (d : TypeDesc) (hu : P.underlying ty = some d) (hd : d.isRow = true) (hi : (P.info? ty).map (·.size) = some cs.length)
    (h : wpListIn F n P ops Q rest (a.put op.dst (.agg cs.toArray)) w) : wpListIn F n P ops Q (op :: rest) a w := by
  refine wpListIn_plain hgd fun K hK => ?_
  unfold Oper.wpIn
  refine ⟨by simp [Oper.about, ho], ?_⟩
  rw [Oper.semAt_plain F _ _ (by rw [ho]; intro c hc; cases hc)]
  unfold execOp
  simp only [ho, hx, Instr.loadAt, Instr.sureAddr, Sem.run_bind, Sem.run_pure, Result.andThen_ok, run_loadVar_mid w g o ty cs d (hb.range o cs hcs) hu hd hi]
  exact hK _ _ h
end
/-- A round, its answer in one word. -/
theorem yieldOne {F : Fence} {m : Nat} {P : Program} {l : Nat} {args : Array Value} {W : World} {A C : World → Prop}
    (h : YieldAt F m P l args W fun e W' => (e = .returned (.bool true) ∧ A W') ∨ (e = .returned (.bool false) ∧ C W')) :
    YieldAt F m P l args W fun e W' => ∃ b, e = .returned (.bool b) ∧ Hid (if b = true then A W' else C W') := by
  obtain ⟨fn, tmps, assign, body, h1, h2⟩ := h
  refine ⟨fn, tmps, assign, body, h1, RoundIn.mono h2 fun e W' hh => ?_⟩
  rcases hh with ⟨h1, h2⟩ | ⟨h1, h2⟩
  · exact ⟨true, h1, by show (if true = true then A W' else C W'); rw [if_pos rfl]; exact h2⟩
  · exact ⟨false, h1, by show (if false = true then A W' else C W'); rw [if_neg (by simp)]; exact h2⟩

set_option maxRecDepth 100000 in
theorem members_any (h : Hd) (lv m : Int) (w : World) : Calls Try.prog 25 #[h.val, .int .i64 lv, .int .i64 m] w fun e w' => e = .returned (.func (.func 32) #[] #[.pointer (some ⟨w.heap.size + 1 + 1, 0, none⟩), .pointer (some ⟨w.heap.size, 0, none⟩), .pointer (some ⟨w.heap.size + 1, 0, none⟩)]) ∧
    w' = ((w.alloc (.cells h.cells.toArray 25)).alloc (.cells #[.int .i64 lv] 3)).alloc (.cells #[.int .i64 m] 3) := by
  unfold Hd.val Hd.cells
  go_enter Try.func25, Try.ntmps25
  go_wp2_with fail
  go_ret
  exact ⟨rfl, rfl⟩

set_option maxRecDepth 100000 in
set_option maxHeartbeats 2000000 in
theorem members1_in {B : Nat} (n : Nat) (l bn bd bl : Nat) (h : Hd) (d : Dm) (lv m : Int) (J Jx : List Int → World → Prop)
    (hJ : ∀ pre A C, J pre A → Below A.heap.size A C → J pre C)
    (hY : ∀ pre x W, J pre W → pre.length < d.D.length → YieldAt Fence.wide (n - 1) Try.prog l #[.int .i64 x] W fun e W' =>
      (e = .returned (.bool true) ∧ J (pre ++ [x]) W' ∧ KeepI B [bn, bl] W W') ∨ (e = .returned (.bool false) ∧ Jx (pre ++ [x]) W'))
    (W : World) (hm : DomM W B h d) (kd : Blk W bd h.cells 25) (kl : Blk W bl [.int .i64 lv] 3) (kn : Blk W bn [.int .i64 m] 3) (h0 : J [] W) :
    CallsIn Fence.wide n Try.prog 32 #[.func (.yield l) #[] #[], .pointer (some ⟨bn, 0, none⟩), .pointer (some ⟨bd, 0, none⟩), .pointer (some ⟨bl, 0, none⟩)] W fun e W' => (∃ v, e = .returned v) ∧
      ((∃ ys, ys = d.memI lv m ∧ J ys W') ∨ (∃ pre, True ∧ Jx pre W')) := by
  have hro : Fence.wide.round = none := rfl
  have hm' := Lib.hid hm
  have hdd := Lib.hid size_dom
  have hun : Hid (Try.prog.underlying 25 = _) := Try.underlying25
  have hJ' := Lib.hid hJ
  have hY' := Lib.hid hY
  have h0' := Lib.hid h0
  have kd0 := Lib.hid kd
  have kl' := Lib.hid kl
  have kn' := Lib.hid kn
  have kd' := kd0
  have hlts : Hid (bd < W.heap.size ∧ bl < W.heap.size ∧ bn < W.heap.size) := ⟨kd.lt, kl.lt, kn.lt⟩
  unfold Hd.cells at kd'
  have CS := Lib.hid (fun W2 (hW : Below W.heap.size W W2) => dsize_any h d lv W2 (hm.below hW))
  have CF := Lib.hid (fun W2 (hW : Below W.heap.size W W2) => finder_any h d lv W2 (hm.below hW))
  have p1 : ∀ q : ExtOf W.drew, q.world.cell? ⟨bn, 0, none⟩ = some (.int .i64 m) := fun q => (kn.below (q.below (Nat.le_refl _)) kn.lt).cell (j := 0) rfl
  have p2 : ∀ q : ExtOf W.drew, q.world.cell? ⟨bl, 0, none⟩ = some (.int .i64 lv) := fun q => (kl.below (q.below (Nat.le_refl _)) kl.lt).cell (j := 0) rfl
  have p3 : ∀ q : ExtOf W.drew, q.world.rangeAt bd 0 [.slice h.a1 h.n1 h.c1, .slice h.a2 h.n2 h.c2, .slice h.a3 h.n3 h.c3, .int .i64 h.o] := fun q => (kd.below (q.below (Nat.le_refl _)) kd.lt).range 0 _ (take_all0 _)
  obtain ⟨Sz, hSz⟩ : ∃ E : Int, E = d.size lv := ⟨_, rfl⟩
  have hS := Lib.hid hSz
  rw [← hSz] at CS
  unfold Hd.val at CS CF
  clear hm hJ hY kd kl kn h0 hSz
  refine callsIn_of_wp Try.func32 rfl trivial ?_ hro
  simp only [Try.ntmps32, List.size_toArray, List.length_cons, List.length_nil, Nat.reduceAdd, Nat.reduceSub, Array.replicate_succ, Array.replicate_zero, List.push_toArray, List.append_toArray, List.nil_append, List.cons_append]
  gi_wp2_with fail
  refine wpIn_wide.2 ?_
  refine wp_region_planM [] [(true, 0), (true, 1), (true, 2), (false, 3), (false, 4), (true, 5)] (by decide) (by kernel_rfl) (by kernel_rfl) (by decide) (by intro c a d v w h; cases d <;> exact h) ?_
  change wpPlanM _ _ _ _ _ _ W.drew
  refine wpPlanM_plain rfl (fun K hK => ?_); go_simp; refine hK _ ?_; clear hK K
  refine wpPlanM_runW rfl (by rfl) _ (fun q => load_run 25 _ rfl bd 0 rfl [.slice h.a1 h.n1 h.c1, .slice h.a2 h.n2 h.c2, .slice h.a3 h.n3 h.c3, .int .i64 h.o] _ hun.out rfl hdd.out q.world (p3 q)) ?_
  refine wpPlanM_plain rfl (fun K hK => ?_); go_simp; refine hK _ ?_; clear hK K
  clear p1 p2 p3
  have hd0 : Hid (Below W.heap.size W W.drew) := (Below.refl _ _).drew
  refine wpPlanM_call rfl (fun K hK => ?_)
  go_wp2_with fail
  refine (CS.out W.drew hd0.out).mono ?_
  rintro e w2 ⟨rfl, hb2⟩
  have hb2' := Lib.hid hb2
  have hB2 : Hid (Below W.heap.size W w2) := hd0.out.trans (hb2.mono hd0.out.size)
  clear hb2
  go_wp2_with fail
  refine planPostL_normal ⟨.inr hb2'.out, hK _ _ ?_⟩
  clear hK K
  refine wpPlanM_call rfl (fun K hK => ?_)
  go_wp2_with fail
  refine (isIndex_any m Sz w2).mono ?_
  rintro e w3 ⟨rfl, rfl⟩
  go_wp2_with fail
  refine planPostL_normal ⟨.inr (Below.refl _ _), hK _ _ ?_⟩
  clear hK K
  iterate 1 (refine wpPlanM_plain rfl (fun K hK => ?_); go_simp; refine hK _ ?_; clear hK K)
  refine wpPlanM_nil ?_
  have J2 := Lib.hid (hJ'.out [] W w3 h0'.out hB2.out)
  cases hin : inB m Sz with
  | false =>
    have hz : Hid (d.memI lv m = []) := by
      show _ = _
      unfold Dm.memI Dm.memT
      have := Dm.mem_out (d := d) (lv := lv) (n := m) (by rw [← hS.out]; exact hin)
      unfold Dm.mem at this
      rw [this]; rfl
    clear hin
    gi_wp2_with fail
    refine bodyPost_ret (results_none rfl _ _ _) rfl ?_
    exact ⟨⟨_, rfl⟩, .inl ⟨[], hz.out.symm, J2.out⟩⟩
  | true =>
    have hm0 : Hid (0 ≤ m) := (inB_iff.1 hin).1
    have hb3 : Hid (Below W.heap.size W w3) := hB2
    have kd3 := Lib.hid (kd'.out.below hB2.out hlts.out.1)
    have pl := (kl'.out.below hB2.out hlts.out.2.1).cell (j := 0) rfl
    have C3 := Lib.hid (CF.out w3 hB2.out)
    clear hin
    gi_wp2_with (first | (refine wpListIn_blkD rfl 25 _ rfl 0 rfl kd3.out [.slice h.a1 h.n1 h.c1, .slice h.a2 h.n2 h.c2, .slice h.a3 h.n3 h.c3, .int .i64 h.o] (take_all0 _) _ hun.out rfl hdd.out ?_) | (refine ⟨trivial, (fun hh => (by cases hh)), ?_⟩; gi_at_call 26; refine (callsIn_wide.2 C3.out).mono ?_; rintro e w4 ⟨v, rfl, ⟨f, cap, rfl, hcf, hC⟩, hb4⟩; have hB4 : Hid (Below W.heap.size W w4) := hB2.out.trans (hb4.mono hB2.out.size); have hC' := Lib.hid hC; have pd4 := (kd3.out.below hb4 kd3.out.lt).cell (j := 0) rfl; clear hC hb4))
    have J4 := Lib.hid (hJ'.out [] W w4 h0'.out hB4.out)
    have kn4 := Lib.hid (kn'.out.below hB4.out hlts.out.2.2)
    have hl1 : Hid (h.n1 = d.D.length) := hm'.out.l1
    have hB0 : Hid (B ≤ w4.heap.size) := Nat.le_trans hm'.out.le hB4.out.size
    obtain ⟨n1, hn1⟩ : ∃ n1, n1 = h.n1 := ⟨_, rfl⟩
    rw [← hn1] at hl1 ⊢
    have hn1s : n1 ≤ 140737488355328 := by rw [hn1]; exact hm'.out.s1
    clear pd4 hn1 CS CF J2
    gi_loopw [19] (fun i wr => ∃ k : Nat, k ≤ n1 ∧ i = .int .i64 k ∧ Hid (J (d.memT lv m k) wr) ∧ Hid (KeepI B [bn, bl] w4 wr)) (fun i _ => n1 - (intOf i).toNat)
    case atStart => exact ⟨0, by omega, rfl, J4, KeepI.refl _ _ _⟩
    case round =>
      obtain ⟨k, hk, rfl, hJk, hKI⟩ := hrel
      by_cases hlt : k < n1
      · have t : (k : Int) < (n1 : Int) := by omega
        have t0 : 0 ≤ (k : Int) := by omega
        have hBr : Hid (B ≤ wr.heap.size) := Nat.le_trans hB0.out hKI.out.1.1.size
        have knr := Lib.hid (hKI.out.blk (b := bn) (by simp) kn4.out)
        obtain ⟨x, hx0⟩ : ∃ x, x = d.of lv k := ⟨_, rfl⟩
        have HQ : Hid (∀ q, Calls Try.prog f (iv k :: cap).toArray (wr.drewN q) fun e W' => e = .returned (iv x) ∧ ∃ k, W' = (wr.drewN q).drewN k) := fun q => by
          rw [hx0]
          exact hC'.out (wr.drewN q) (hKI.out.1.trans (KeepT.of (below_drewN (Below.refl _ _) q) hBr.out)) k trivial
        have hx := Lib.hid hx0
        unfold iv at HQ
        have pn : ∀ q, (wr.drewN q).cell? ⟨bn, 0, none⟩ = some (.int .i64 m) := fun q => knr.out.cell (j := 0) rfl
        clear hx0
        by_cases hxm : x = m
        · subst hxm
          have hL : Hid (d.memT lv x (k + 1) = d.memT lv x k ++ [(k : Int)]) := memT_yes hm0.out hx.out.symm
          have HY : Hid (∀ C, Below wr.heap.size wr C → YieldAt Fence.wide (n - 1) Try.prog l #[.int .i64 (k : Int)] C fun e W' => ∃ b, e = .returned (.bool b) ∧ Hid (if b = true then (J (d.memT lv x k ++ [(k : Int)]) W' ∧ KeepI B [bn, bl] C W') else Jx (d.memT lv x k ++ [(k : Int)]) W')) := fun C hC =>
            yieldOne (hY'.out _ k C (hJ'.out _ wr C hJk.out hC) (by have := memT_len d lv x k; have := hl1.out; omega))
          gi_wp2_with fail
          have HB : Hid (∀ q, Below wr.heap.size wr (wr.drewN q)) := fun q => below_drewN (Below.refl _ _) q
          have pn1 : wr.drew.cell? ⟨bn, 0, none⟩ = some (.int .i64 x) := pn 1
          gi_region_with (first | (refine ⟨trivial, (fun hh => (by cases hh)), ?_⟩; refine (callsIn_wide.2 (HQ.out _)).mono ?_; rintro e w5 ⟨rfl, q5, rfl⟩; obtain ⟨fn, tmps, assign, body, hy, hR⟩ := HY.out (wr.drewN (1 + q5)) (HB.out _)) | (refine ⟨(fun hh => (by cases hh)), RoundIn.mono hR ?_⟩; rintro e w6 ⟨b, rfl, hb⟩))
          all_goals (have hkk := Lib.hid (KeepI.of (B := B) (bs := [bn, bl]) (HB.out (1 + q5)) hBr.out (by intro b hb; simp at hb; have := hlts.out; have := hB4.out.size; have := hKI.out.1.1.size; rcases hb with rfl | rfl <;> omega)))
          all_goals (cases b)
          all_goals (gi_wp2_with fail)
          all_goals (have hbb := hb.out)
          all_goals (first | (refine bodyPost_ret (results_none rfl _ _ _) rfl ?_; exact ⟨⟨_, rfl⟩, .inr ⟨_, trivial, by simpa using hbb⟩⟩) | (rw [if_pos rfl] at hbb; exact ⟨⟨k + 1, by omega, by go_num, by rw [hL.out]; exact hbb.1, hKI.out.trans (hkk.out.trans hbb.2)⟩, by simp [intOf]; omega⟩))
        · have te : (x == m) = false := by simp only [beq_eq_false_iff_ne, ne_eq]; exact hxm
          have hL : Hid (d.memT lv m (k + 1) = d.memT lv m k) := memT_no (by rw [← hx.out]; exact hxm)
          clear hxm
          gi_wp2_with fail
          have hKQ : Hid (∀ q, KeepI B [bn, bl] wr (wr.drewN q)) := fun q => KeepI.of (below_drewN (Below.refl _ _) q) hBr.out (by intro b hb; simp at hb; have := hlts.out; have := hB4.out.size; have := hKI.out.1.1.size; rcases hb with rfl | rfl <;> omega)
          refine wpIn_wide.2 ?_
          go_quiet (exact Calls.quiet_of (HQ.out _))
          gi_wp2_with fail
          go_roundw
          case rel => exact ⟨k + 1, by omega, by go_num, by rw [hL.out]; exact hJ'.out _ wr _ hJk.out (below_drewN (Below.refl _ _) _), hKI.out.trans (hKQ.out _)⟩
          case measure => simp [intOf]; omega
      · have t : ¬ (k : Int) < (n1 : Int) := by omega
        obtain rfl : k = n1 := by omega
        gi_wp2_with fail
        go_end0
        have hfin : Hid (J (d.memI lv m) wr) := by show J _ _; unfold Dm.memI; rw [← hl1.out]; exact hJk.out
        first | exact ⟨⟨_, rfl⟩, .inl hfin.out⟩ | exact ⟨⟨_, rfl⟩, .inl ⟨_, rfl, hfin.out⟩⟩
end Go.Proofs.Ytelcaddgkjkegaa
