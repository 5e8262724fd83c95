/-
  Stage 10 (domain): Members; the iterator over the pieces of a layout.
-/
import Derived.Test.YtelcaddgkjkegaaDml
import Derived.Maps.AppendAt
namespace Go.Proofs.Ytelcaddgkjkegaa
set_option linter.unusedVariables false
set_option linter.unusedSimpArgs false
open Go.RowKit Go.Shelf
attribute [local go_sem] Oper.semAt_some

theorem stays_block {W w1 : World} {tmp : Obj} {v : Value} {b j : Nat} {v' : Value} (hgrow : (W.alloc tmp).grownBy w1 v.ownBlock) (hj : j < W.heap.size) (h1 : j ≠ b) (h2 : some j ≠ v.ownBlock) : (w1.setCell ⟨b, 0, none⟩ v').heap[j]? = W.heap[j]? :=
  (Below.heap_setCell _ _ _ j h1).trans ((hgrow.block j (by rw [World.size_alloc]; omega) h2).trans (Below.heap_alloc W tmp j hj))
theorem ownZ_block {W : World} {base : Nat} {v : Value} {k : Nat} {xs : List Value} (h : W.ownsRow base 3 1 v k xs) {j : Nat} (hj : some j = v.ownBlock) : base ≤ j ∧ ∃ c, W.heap[j]? = some (.cells c 3 (0, 0)) := by
  rcases h.2 with ⟨rfl, _⟩ | ⟨g, cap, cur, rfl, hb, hgb, _⟩
  · simp [Value.ownBlock] at hj
  · obtain rfl : j = g := by simpa [Value.ownBlock] using hj
    exact ⟨hb, _, hgb⟩
theorem keepI_appended {W w1 : World} {B N0 b : Nat} {bs : List Nat} {v v' : Value} {k : Nat} {xs : List Value} {tmp : Obj} (hv : Boxed W b 22 v) (hrow : W.ownsRow N0 3 1 v k xs) (hN0 : N0 ≤ W.heap.size) (hgrow : (W.alloc tmp).grownBy w1 v.ownBlock)
    (hB : B ≤ N0) (hBb : B ≤ b) (hbs : ∀ x ∈ bs, x < N0 ∧ x ≠ b) : KeepI B bs W (w1.setCell ⟨b, 0, none⟩ v') := by
  refine ⟨⟨(((Below.refl B W).alloc (by omega) tmp).grown hgrow (by simp; omega) fun j ej => ?_).setCell (p := ⟨b, 0, none⟩) hBb v', fun g L t h1 h2 hk => ?_⟩, fun x hx => ?_⟩
  · exact Nat.le_trans hB (ownZ_block hrow ej.symm).1
  · refine (stays_block hgrow hk.lt ?_ ?_).trans hk
    · rintro rfl
      have := (show W.heap[g]? = _ from hk).symm.trans hv
      simp at this
      exact h2 this.2
    · intro e
      obtain ⟨c, hc⟩ := (ownZ_block hrow e).2
      have := (show W.heap[g]? = _ from hk).symm.trans hc
      simp at this
      exact h1 this.2
  · have hx' := hbs x hx
    exact stays_block hgrow (by omega) hx'.2 (fun e => by have := (ownZ_block hrow e).1; omega)

theorem members_stops {B : Nat} (n : Nat) (bn bd bl : Nat) (h : Hd) (d : Dm) (lv m : Int) (w : World) (hm : DomM w B h d) (kd : Blk w bd h.cells 25) (kl : Blk w bl [.int .i64 lv] 3) (kn : Blk w bn [.int .i64 m] 3) :
    SeqStopsK Fence.wide n Try.prog 32 #[.pointer (some ⟨bn, 0, none⟩), .pointer (some ⟨bd, 0, none⟩), .pointer (some ⟨bl, 0, none⟩)] (fun x : Int => #[Value.int .i64 x]) (KeepI B [bn, bl]) (fun ys => ys = d.memI lv m) (fun _ => True) d.D.length w := fun l J Jx W hW hJ _ hY h0 =>
  members1_in n l bn bd bl h d lv m J Jx (fun pre A C hA hb => hJ pre A C none hA (grown_none hb none) (fun r e => by cases e)) hY W (hm.below hW) (kd.below hW kd.lt) (kl.below hW kl.lt) (kn.below hW kn.lt) h0

set_option maxRecDepth 100000 in
set_option maxHeartbeats 4000000 in
theorem dmem_any {B : Nat} (h : Hd) (d : Dm) (lv m : Int) (w : World) (hm : DomM w B h d) (hsm : d.D.length ≤ 100000) :
    Calls Try.prog 10 #[h.val, .int .i64 lv, .int .i64 m] w fun e w' => ∃ v, e = .returned v ∧ OwnZ w' w.heap.size v (d.memI lv m) ∧ Below w.heap.size w w' := by
  refine (callsIn_wide (n := 5)).1 ?_
  have hro : Fence.wide.round = none := rfl
  obtain ⟨i0, hi, hz0, hz1, hz2⟩ := info_parts infoZ
  obtain ⟨W1, hW1⟩ : ∃ W1, W1 = w.alloc (.cells h.cells.toArray 25) := ⟨_, rfl⟩
  obtain ⟨W2, hW2⟩ : ∃ W2, W2 = W1.alloc (.cells #[.slice none 0 0] 22) := ⟨_, rfl⟩
  obtain ⟨W3, hW3⟩ : ∃ W3, W3 = ((W2.alloc (.cells h.cells.toArray 25)).alloc (.cells #[.int .i64 lv] 3)).alloc (.cells #[.int .i64 m] 3) := ⟨_, rfl⟩
  have s1 : W1.heap.size = w.heap.size + 1 := by rw [hW1]; simp
  have s2 : W2.heap.size = w.heap.size + 1 + 1 := by rw [hW2, World.size_alloc, s1]
  have s3 : W3.heap.size = w.heap.size + 5 := by rw [hW3]; simp [s2]
  have hB1 : Below w.heap.size w W1 := by rw [hW1]; exact (Below.refl _ _).alloc (Nat.le_refl _) _
  have hB2 : Below w.heap.size w W2 := by rw [hW2]; exact hB1.alloc hB1.size _
  have hB3 : Below w.heap.size w W3 := by rw [hW3]; exact ((hB2.alloc hB2.size _).alloc (by simp; omega) _).alloc (by simp; omega) _
  have kd2 : Hid (Blk W2 w.heap.size h.cells 25) := by show Blk _ _ _ _; rw [hW2, hW1]; exact (Blk.new _ _ _).alloc _
  have bX : Boxed W3 (w.heap.size + 1) 22 (.slice none 0 0) := by
    rw [hW3]
    refine Boxed.alloc (Boxed.alloc (Boxed.alloc ?_ _) _) _
    rw [hW2]
    have := Boxed.new W1 22 (.slice none 0 0)
    rwa [s1] at this
  have kd3 : Blk W3 (w.heap.size + 1 + 1) h.cells 25 := by rw [hW3]; exact ((Blk.new W2 _ _).alloc _ |>.alloc _).at (by rw [s2])
  have kl3 : Blk W3 (w.heap.size + 1 + 1 + 1) [.int .i64 lv] 3 := by rw [hW3]; exact ((Blk.new _ [_] _).alloc _).at (by rw [World.size_alloc, s2])
  have kn3 : Blk W3 (w.heap.size + 1 + 1 + 1 + 1) [.int .i64 m] 3 := by rw [hW3]; exact (Blk.new _ [_] _).at (by rw [World.size_alloc, World.size_alloc, s2])
  have hm3 := hm.below hB3
  have hS := members_stops 4 (w.heap.size + 1 + 1 + 1 + 1) (w.heap.size + 1 + 1) (w.heap.size + 1 + 1 + 1) h d lv m W3 hm3 kd3 kl3 kn3
  have hle := hm.le
  have hdd := Lib.hid size_dom
  have hun : Hid (Try.prog.underlying 25 = _) := Try.underlying25
  have HMk := members_any h lv m W2
  rw [← hW3, s2] at HMk
  have HM := Lib.hid HMk
  have hW1' := Lib.hid hW1
  have hW2' := Lib.hid hW2
  unfold Hd.cells at hW1' kd2
  unfold Hd.val at HM ⊢
  clear hW1 hW2 hW3 hm HMk kd3 kl3 kn3 hm3
  refine callsIn_of_wp_marks Try.func10 rfl trivial ?_ hro
  simp only [Try.ntmps10, List.size_toArray, List.length_cons, List.length_nil, Nat.reduceAdd, Nat.reduceSub, Array.replicate_succ, Array.replicate_zero, List.push_toArray, List.append_toArray, List.nil_append, List.cons_append]
  gi_wp2_with fail
  generalize hg : (w.alloc _).alloc _ = Wg
  have hgW : W2 = Wg := by rw [← hg, hW2'.out, hW1'.out]
  clear hg hW2' hW1'
  subst hgW
  refine ⟨trivial, (callsIn_wide.2 HM.out).mono ?_⟩
  rintro e w' ⟨rfl, rfl⟩
  gi_wp2_with fail
  refine wpIn_rangeFunc_ownG hro (by omega) (gf := 32) (lb := #[.pointer (some ⟨w.heap.size + 1 + 1 + 1 + 1, 0, none⟩), .pointer (some ⟨w.heap.size + 1 + 1, 0, none⟩), .pointer (some ⟨w.heap.size + 1 + 1 + 1, 0, none⟩)]) rfl trivial (enters_of Try.func32 (by kernel_rfl) rfl)
    hS keepI_t (keepI_b (by omega) (by intro b hb; simp at hb; rcases hb with rfl | rfl <;> omega)) (Below.refl _ _) (fun _ => rfl)
    (fun (pre : List Int) W => (∃ v, Boxed W (w.heap.size + 1) 22 v ∧ W.ownsRow w'.heap.size 3 1 v pre.length (pre.map iv) ∧ True) ∧ Below w.heap.size w' W)
    (fun _ _ _ => False)
    (OwnFrom.and (Own.from (holdsRow_own w'.heap.size (w.heap.size + 1) 22 3 1 (fun pre : List Int => pre.length) (fun pre => pre.map iv) (fun pre v => True)) _) (ownFrom_below (by omega) (by omega)))
    (fun _ _ _ _ _ hs _ _ => hs)
    ⟨⟨_, bX, World.ownsRow_nil _ _ _ _, trivial⟩, Below.refl _ _⟩
    (fun x => { tmps := #[.agg #[.slice h.a1 h.n1 h.c1, .slice h.a2 h.n2 h.c2, .slice h.a3 h.n3 h.c3, .int .i64 h.o], .int .i64 lv, .int .i64 m, .pointer (some ⟨w.heap.size, 0, none⟩), undef, undef, .slice none 0 0, .pointer (some ⟨w.heap.size + 1, 0, none⟩), .int .i64 x, .agg #[.slice h.a1 h.n1 h.c1, .slice h.a2 h.n2 h.c2, .slice h.a3 h.n3 h.c3, .int .i64 h.o], .int .i64 lv, .int .i64 m, .func (.func 32) #[] #[.pointer (some ⟨w.heap.size + 1 + 1 + 1 + 1, 0, none⟩), .pointer (some ⟨w.heap.size + 1 + 1, 0, none⟩), .pointer (some ⟨w.heap.size + 1 + 1 + 1, 0, none⟩)], .int .i64 x, undef, undef, undef, undef, undef], defers := [] }) ?assign ?body ?done ?stop
  case assign =>
    intro l x W K hK
    gi_wp2
    exact hK
  case body =>
    rintro l pre x W ⟨⟨v, hv, hrow, _⟩, hB⟩ hlt
    have hc := hv.cell
    have hW3 : w'.heap.size ≤ W.heap.size := hB.size
    gi_wp2_with (gi_at_builtin; refine wpListIn_append_own _ rfl _ _ 22 rfl w'.heap.size 3 i0 (.int .i64 0) 1 8 Try.underlying22 hi hz0 hz1 hz2 rfl (by decide) _ _ _ rfl (hrow.alloc _) ⟨W.heap.size, 0, none⟩ 1 1 [.int .i64 x] rfl rfl (cell_one_new _ _ _) (by simp [Value.oneCell']) (by unfold maxLen; omega) (by omega) (by simp; omega) ?_; intro v' w1 hown' hgrow _; obtain ⟨g', cap', rfl⟩ := ownsRow_succ hown'; have hownZ : OwnZ w1 w'.heap.size (.slice (some ⟨g', 0, none⟩) (pre.length + 1) cap') (pre ++ [x]) := (by unfold OwnZ; rw [List.length_append, List.map_append]; exact hown'); have hrl : W.ownsRow w.heap.size 3 1 v pre.length (pre.map iv) := OwnZ.lower (l := pre) hrow (by omega); obtain ⟨hv1, hv2, hr2, hk2, hb2⟩ := hv.appended (by decide) hrl (by omega) (Nat.le_succ _) (OwnZ.lower (l := pre ++ [x]) hownZ (by omega)) hgrow; have hc1 := hv1.cell; have hf1 := hv1.frozen)
    exact ⟨hk2.from _, keepI_appended hv hrow hW3 hgrow (by omega) (by omega) (by intro b hb; simp at hb; rcases hb with rfl | rfl <;> omega),
      ⟨⟨_, hv2, hownZ.kept (grownBy_setCell' w1 _ _) (.inr (hv1.not_row (by decide) hownZ).symm), trivial⟩, hB.trans hb2⟩⟩
  case done =>
    rintro D ys W hD rfl ⟨⟨v, hv, hrow, _⟩, hB⟩ hK
    have hc := hv.cell
    gi_wp2
    refine ⟨by simp, .inl ⟨_, _, rfl, run_takeDeferred hK, ?_⟩⟩
    exact ⟨_, results_tmp rfl _ _ _, v, rfl, OwnZ.lower (l := d.memI lv m) (ownsRow_putObj hrow _ hK rfl) (by omega), (hB3.trans hB).trans (belowK_b (w := w) (Nat.le_refl _) W D _ _ (by omega) hK rfl rfl)⟩
  case stop =>
    rintro D c pre W _ _ h _
    exact h.elim
end Go.Proofs.Ytelcaddgkjkegaa
