/-
  Contracts of stage 2: streams as values; Sum, digests, parts.
-/
import Derived.Test.YtedhjjlnionckaaDoorStn
import Derived.Test.YtedhjjlnionckaaDoorRegT
namespace Go.Proofs.YtedhjjlnionckaaDoor
set_option linter.unusedVariables false
open Go.RowKit

/-- An array of bytes as a value. -/
def av (l : List UInt8) : Value := .agg (l.map bv).toArray
/-- A stream's value. -/
def SVal (m : List UInt8) (v : Value) : Prop := ∃ s b, Sha.Holds m s b ∧ v = .agg (scells s b m.length).toArray
theorem SVal.cells {m : List UInt8} {v : Value} (h : SVal m v) : ∃ L : List Value, v = .agg L.toArray ∧ L.length = 73 ∧ ∀ u ∈ L, u.oneCell' = true := by
  obtain ⟨s, b, hh, rfl⟩ := h
  exact ⟨_, rfl, scells_len hh.len hh.2.1, stream_one s b m.length⟩
theorem begin_v (w : World) : Calls Tryd.prog 52 #[] w fun e w' => ∃ v, (e = .returned v ∧ SVal [] v) ∧ Below w.heap.size w w' :=
  (begin_any w).mono fun e w' h => ⟨_, ⟨h.1, _, _, Sha.Holds.begin, rfl⟩, h.2⟩
theorem add_v (m t : List UInt8) (v : Value) (w : World) (h : SVal m v) (hlen : m.length + t.length ≤ 1000000000) (ht : Tab 1 w) :
    Calls Tryd.prog 53 #[v, sv t] w fun e w' => ∃ v', (e = .returned v' ∧ SVal (m ++ t) v') ∧ Below w.heap.size w w' := by
  obtain ⟨s, b, hh, rfl⟩ := h
  exact (add_any m t s b w hh hlen ht).mono fun e w' h => by
    obtain ⟨⟨s', b', h1, h2⟩, h3⟩ := h
    exact ⟨_, ⟨h2, s', b', h1, rfl⟩, h3⟩
theorem sum_v (m : List UInt8) (v : Value) (w : World) (h : SVal m v) (hlen : m.length ≤ 1000000000) (ht : Tab 1 w) :
    Calls Tryd.prog 54 #[v] w fun e w' => e = .returned (av (Sha.sum m)) ∧ Below w.heap.size w w' := by
  obtain ⟨s, b, hh, rfl⟩ := h
  exact streamSum_any m s b w hh hlen ht

section
variable {P : Program} {ops : Array Oper} {rest : List Oper} {op : Oper} {a : Act} {w : World} {Q : Exit → Act → World → Prop}
/-- A whole row is stored in a block. -/
theorem wpList_row_store (hgd : op.guard = none) (ty : TypeId) (x y : Operand) (ho : op.op = .store ty x y) {g : Nat} {L : List Value} {t : TypeId} (C : List Value) (hx : a.eval x = .pointer (some ⟨g, 0, none⟩)) (hy : a.eval y = .agg C.toArray)
    (hb : Blk w g L t) (hi : (P.info? ty).map (·.size) = some C.length) (hl : C.length = L.length) (h1 : ∀ u ∈ C, u.oneCell' = true)
    (h : ∀ w', Hid (Blk w' g C t) → Only g w w' → wpList P ops Q rest (a.put op.dst undef) w') : wpList P ops Q (op :: rest) a w := by
  refine wpList_blk_store hgd ty x y ho 0 (.agg C.toArray) hx hy hb (by simpa [Value.cells] using hi) (by simp [Value.cells]; omega) h1 ?_
  intro w' hw ho'
  refine h w' ?_ ho'
  have := hw.out
  rw [show (Value.agg C.toArray).cells.toList = C from rfl, splice_all _ _ hl] at this
  exact this
end
theorem _root_.Go.ExtOf.below {w1 : World} {B : Nat} (x : ExtOf w1.drew) (h : B ≤ w1.heap.size) : Below B w1 x.world := ((Below.refl B w1).drew).trans (Below.mono x.ext h)
theorem drewBelow {w1 w2 : World} (h : Below w1.drew.heap.size w1.drew w2) : Below w1.heap.size w1 w2 := ((Below.refl w1.heap.size w1).drew).trans h
theorem av_one (l : List UInt8) : ∀ u ∈ l.map bv, u.oneCell' = true := bytes_cells l
theorem av_len (l : List UInt8) : (l.map bv).length = l.length := List.length_map ..

set_option maxRecDepth 100000 in
set_option maxHeartbeats 1000000 in
theorem hashSum_any (l : List UInt8) (A : Option Addr) (c : Nat) (w : World) (hr : Rds w w.heap.size A (l.map bv)) (hlen : l.length ≤ 1000000000) (ht : Tab 1 w) :
    Calls Tryd.prog 15 #[.slice A l.length c] w fun e w' => e = .returned (av (Sha.sum l)) ∧ Below w.heap.size w w' := by
  have hZ := Sha.sum_len l
  have HA := Lib.hid (fun v W (h : SVal [] v) (hT : Tab 1 W) => add_v [] l v W h (by simpa using hlen) hT)
  have HS := Lib.hid (fun v W (h : SVal l v) (hT : Tab 1 W) => sum_v l v W h hlen hT)
  have hR0 := Blk.new w (bz 32) 24
  have hB0 : Below w.heap.size w (w.alloc (.cells (bz 32).toArray 24)) := (Below.refl _ _).alloc (Nat.le_refl _) _
  have hrr := hr.below hB0
  have hT0 := ht.on hB0
  unfold sv at HA
  generalize Sha.sum l = Z at hZ HS
  go_enter Tryd.func15, Tryd.ntmps15
  go_wp2_with fail
  refine wp_region_planL 5 [(true, 1), (true, 2), (false, 0), (false, 3), (false, 4), (false, 5)] (by kernel_rfl) (by decide) (by kernel_rfl) (by kernel_rfl) (by kernel_rfl) (by decide) (by intro c a d v w h; cases d <;> exact h) ?_
  change wpPlanL _ _ _ _ _ _ (World.drew (w.alloc (.cells (bz 32).toArray 24)))
  generalize w.alloc (.cells (bz 32).toArray 24) = w1 at hR0 hB0 hrr hT0
  have hc := fun x : ExtOf w1.drew => run_bytes_bs (P := Tryd.prog) x.world 22 9 5 Tryd.underlying22 Tryd.underlying5 Tryd.underlying9 c (hrr.below (x.below hB0.size))
  iterate 2 (refine wpPlanL_plain rfl (fun K hK => ?_); go_simp; refine hK _ ?_; clear hK K)
  refine wpPlanL_call rfl (fun K hK => ?_)
  go_wp2_with fail
  refine (begin_v _).mono ?_
  rintro e w2 ⟨v2, ⟨rfl, hv2⟩, hb2⟩
  go_wp2_with fail
  refine planPostL_normal ⟨.inr hb2, hK _ _ ?_⟩
  clear hK K hc
  have hb2 := drewBelow hb2
  have hT2 := hT0.on hb2
  refine wpPlanL_call rfl (fun K hK => ?_)
  go_wp2_with fail
  refine (HA.out _ _ hv2 hT2).mono ?_
  rintro e w3 ⟨v3, ⟨rfl, hv3⟩, hb3⟩
  go_wp2_with fail
  refine planPostL_normal ⟨.inr hb3, hK _ _ ?_⟩
  clear hK K
  have hT3 := hT2.on hb3
  refine wpPlanL_call rfl (fun K hK => ?_)
  go_wp2_with fail
  refine (HS.out _ _ hv3 hT3).mono ?_
  rintro e w4 ⟨rfl, hb4⟩
  go_wp2_with fail
  refine planPostL_normal ⟨.inr hb4, hK _ _ ?_⟩
  clear hK K
  have hb14 : Below w1.heap.size w1 w4 := (hb2.trans (hb3.mono hb2.size)).trans (hb4.mono (Nat.le_trans hb2.size hb3.size))
  have hR4 := hR0.below hb14 hR0.lt
  have hB4 : Below w.heap.size w w4 := hB0.trans (hb14.mono hB0.size)
  have hsz : Hid ((Tryd.prog.info? 24).map (·.size) = some (Z.map bv).length) := by show _ = _; rw [av_len, hZ]; exact size_b32
  refine wpPlanL_call rfl (fun K hK => ?_)
  refine wpList_row_store rfl 24 _ _ rfl (Z.map bv) rfl rfl hR4 hsz.out (by rw [av_len, hZ]; rfl) (av_one Z) ?_
  intro w5 hW5 ho5
  refine wpList_end (planPostL_normal ⟨.inl rfl, hK _ _ ?_⟩)
  clear hK K
  refine wpPlanL_nil ?_
  go_wp2_with fail
  exact bodyPost_ret (ret_blk rfl _ w5 (g := w.heap.size) rfl hW5.out (.array 32 5) Tryd.underlying24 rfl hsz.out) rfl ⟨rfl, hB4.trans (ho5.below (Nat.le_refl _))⟩
end Go.Proofs.YtedhjjlnionckaaDoor
