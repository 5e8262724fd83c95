/-
  Contracts of stage 2: keyed hashes.
-/
import Derived.Test.YtedhjjlnionckaaDoorKey
namespace Go.Proofs.YtedhjjlnionckaaDoor
set_option linter.unusedVariables false
open Go.RowKit

def ipad (key : List UInt8) : List UInt8 := (Sha.block key).map (· ^^^ 0x36)
def opad (key : List UInt8) : List UInt8 := (Sha.block key).map (· ^^^ 0x5c)
theorem ipad_len (key : List UInt8) : (ipad key).length = 64 := by unfold ipad; rw [List.length_map, Sha.block_len]
theorem opad_len (key : List UInt8) : (opad key).length = 64 := by unfold opad; rw [List.length_map, Sha.block_len]
theorem hmac_pads (key msg : List UInt8) : Sha.hmac key msg = Sha.sum (opad key ++ Sha.sum (ipad key ++ msg)) := rfl
/-- The value that a key makes. -/
def KVal (key : List UInt8) (v : Value) : Prop := ∃ Li Lo : List Value, v = .agg (Li ++ Lo).toArray ∧ (SVal (ipad key) (.agg Li.toArray) ∧ Li.length = 73 ∧ ∀ u ∈ Li, u.oneCell' = true) ∧ (SVal (opad key) (.agg Lo.toArray) ∧ Lo.length = 73 ∧ ∀ u ∈ Lo, u.oneCell' = true)
theorem size_key : (Tryd.prog.info? 103).map (·.size) = some 146 := by kernel_rfl
theorem zero_key : Tryd.zeroCells103.size = 146 := by kernel_rfl
theorem zero_keyV : ∀ w, (zeroValue 103).run Tryd.prog w = .ok (.agg Tryd.zeroCells103) w := by
  have h : (Tryd.prog.info? 103).map (fun i => (i.zero, i.size)) = some (some (.agg Tryd.zeroCells103), 146) := by kernel_rfl
  exact (zero_of_info h).1

section
variable {P : Program} {ops : Array Oper} {Q : Exit → Act → World → Prop} {L : Nat}
/-- In a plan: a plain operation whose run is known. -/
theorem wpPlanL_run {i : Nat} {o : Oper} {rest : List (Bool × Nat)} {a : Act} {w : World} (ho : ops[i]? = some o) (hgd : o.guard = none) (v : Value) (hv : ∀ x : ExtOf w, (execOp a.eval o).run P x.world = .ok (.value v) x.world)
    (h : wpPlanL P ops Q L rest (a.put o.dst v) w) : wpPlanL P ops Q L ((true, i) :: rest) a w := by
  unfold wpPlanL
  simp only [ho]
  rw [if_pos (by simp [Region.wanted, hgd])]
  exact ⟨_, hv, h⟩
theorem build_plain {o : Oper} {a : Act} (t : TypeId) (x y : Operand) (hop : o.op = .build t #[(0, x), (1, y)]) (A B : List Value) (hx : a.eval x = .agg A.toArray) (hy : a.eval y = .agg B.toArray) (W : World) (v : Value)
    (hrun : (Instr.build t #[(0, .agg A.toArray), (1, .agg B.toArray)]).run P W = .ok v W) : (execOp a.eval o).run P W = .ok (.value v) W := by
  unfold execOp
  simp only [hop, List.map_toArray, List.map_cons, List.map_nil, hx, hy, Sem.run_bind, Sem.run_pure, hrun, Result.andThen_ok]
end
theorem keyed_struct : ∃ f0 f1 : Field, Tryd.prog.underlying 103 = some (.struct #[f0, f1]) ∧ f0.offset = 0 ∧ f1.offset = 73 ∧ f0.type = 87 ∧ f1.type = 87 := ⟨_, _, Tryd.underlying103, rfl, rfl, rfl, rfl⟩
theorem build_keyed (A B : List Value) (hA : A.length = 73) (hB : B.length = 73) (W : World) : (Instr.build 103 #[(0, .agg A.toArray), (1, .agg B.toArray)]).run Tryd.prog W = .ok (.agg (A ++ B).toArray) W := by
  obtain ⟨f0, f1, hu, o0, o1, t0, t1⟩ := keyed_struct
  exact run_build_two W 103 f0 f1 73 _ zero_keyV zero_key hu o0 o1 (by rw [t0]; exact size_str) (by rw [t1]; exact size_str) A B hA hB

set_option maxRecDepth 100000 in
set_option maxHeartbeats 1000000 in
theorem keyedBy_any (key : List UInt8) (w : World) (hlen : key.length ≤ 1000000000) (ht : Tab 1 w) : Calls Tryd.prog 65 #[sv key] w fun e w' => (∃ v, e = .returned v ∧ KVal key v) ∧ Below w.heap.size w w' := by
  have HK := Lib.hid (fun W hT => keyBlock_any key W hlen hT)
  have hbl := Sha.block_len key
  have HI := Lib.hid (fun W => masked_any (Sha.block key) 0x36 54 rfl W hbl)
  have HO := Lib.hid (fun W => masked_any (Sha.block key) 0x5c 92 rfl W hbl)
  have HAI := Lib.hid (fun v W (h : SVal [] v) (hT : Tab 1 W) => add_v [] (ipad key) v W h (by rw [ipad_len]; simp) hT)
  have HAO := Lib.hid (fun v W (h : SVal [] v) (hT : Tab 1 W) => add_v [] (opad key) v W h (by rw [opad_len]; simp) hT)
  have hcl : ((Sha.block key).map bv).length = 64 := by rw [List.length_map, hbl]
  have hC1 := av_one (Sha.block key)
  have hsz : Hid ((Tryd.prog.info? 85).map (·.size) = some ((Sha.block key).map bv).length) := by show _ = _; rw [hcl]; exact size_b64
  have hR0 := Blk.new' w Tryd.zeroCells103 103
  have hB0 : Below w.heap.size w (w.alloc (.cells Tryd.zeroCells103 103)) := (Below.refl _ _).alloc (Nat.le_refl _) _
  have hT0 := ht.on hB0
  unfold av sv at HI HO
  unfold av sv at HK
  unfold sv at HAI HAO
  change Hid (∀ W, Calls _ _ _ W fun e w' => e = .returned (.string (bs (ipad key))) ∧ _) at HI
  change Hid (∀ W, Calls _ _ _ W fun e w' => e = .returned (.string (bs (opad key))) ∧ _) at HO
  unfold sv
  generalize (Sha.block key).map bv = C at HK HI HO hcl hC1 hsz
  clear hbl hlen
  go_enter Tryd.func65, Tryd.ntmps65
  go_wp2_with fail
  refine (HK.out _ hT0).mono ?_
  rintro e w1 ⟨rfl, hb1⟩
  have hR1 := Lib.hid ((hR0.below hb1 hR0.lt).alloc (.cells (bz 64).toArray 85))
  have hB1 : Below w.heap.size w (w1.alloc (.cells (bz 64).toArray 85)) := (hB0.trans (hb1.mono hB0.size)).alloc (Nat.le_trans hB0.size hb1.size) _
  have hne : w.heap.size < w1.heap.size := Nat.lt_of_lt_of_le hR0.lt hb1.size
  have hD1 := Blk.new w1 (bz 64) 85
  clear hb1 hR0 hB0 hT0 HK
  go_wp2_with (refine wpList_row_store rfl 85 _ _ rfl C rfl rfl hD1 hsz.out hcl hC1 ?_; intro w2 hW2 ho2)
  have hR2 := Lib.hid (hR1.out.only ho2 (by omega))
  have hB2 : Below w.heap.size w w2 := hB1.trans (ho2.below (by omega))
  have hT2 := ht.on hB2
  clear hR1 hB1 ht
  refine wp_region_planL 9 [(true, 1), (true, 5), (false, 0), (false, 2), (false, 3), (false, 4), (false, 6), (false, 7), (true, 8), (false, 9)] (by kernel_rfl) (by decide) (by kernel_rfl) (by kernel_rfl) (by kernel_rfl) (by decide) (by intro c a d v w h; cases d <;> exact h) ?_
  change wpPlanL _ _ _ _ _ _ w2.drew
  refine wpPlanL_load rfl rfl 85 _ rfl w1.heap.size 0 rfl C (.array 64 5) Tryd.underlying85 rfl hsz.out (fun x => ((hW2.out.below (x.below (Nat.le_refl _)) hW2.out.lt).range 0 C (take_all0 C))) ?_
  refine wpPlanL_load rfl rfl 85 _ rfl w1.heap.size 0 rfl C (.array 64 5) Tryd.underlying85 rfl hsz.out (fun x => ((hW2.out.below (x.below (Nat.le_refl _)) hW2.out.lt).range 0 C (take_all0 C))) ?_
  refine wpPlanL_call rfl (fun K hK => ?_)
  go_wp2_with fail
  refine (begin_v _).mono ?_
  rintro e w3 ⟨v3, ⟨rfl, hv3⟩, hb3⟩
  go_wp2_with fail
  refine planPostL_normal ⟨.inr hb3, hK _ _ ?_⟩
  clear hK K
  have hb3 := drewBelow hb3
  refine wpPlanL_call rfl (fun K hK => ?_)
  go_wp2_with fail
  refine (HI.out _).mono ?_
  rintro e w4 ⟨rfl, hb4⟩
  go_wp2_with fail
  refine planPostL_normal ⟨.inr hb4, hK _ _ ?_⟩
  clear hK K
  have hT4 := (hT2.on hb3).on hb4
  refine wpPlanL_call rfl (fun K hK => ?_)
  go_wp2_with fail
  refine (HAI.out _ _ hv3 hT4).mono ?_
  rintro e w5 ⟨v5, ⟨rfl, hv5⟩, hb5⟩
  go_wp2_with fail
  refine planPostL_normal ⟨.inr hb5, hK _ _ ?_⟩
  clear hK K
  refine wpPlanL_call rfl (fun K hK => ?_)
  go_wp2_with fail
  refine (begin_v _).mono ?_
  rintro e w6 ⟨v6, ⟨rfl, hv6⟩, hb6⟩
  go_wp2_with fail
  refine planPostL_normal ⟨.inr hb6, hK _ _ ?_⟩
  clear hK K
  refine wpPlanL_call rfl (fun K hK => ?_)
  go_wp2_with fail
  refine (HO.out _).mono ?_
  rintro e w7 ⟨rfl, hb7⟩
  go_wp2_with fail
  refine planPostL_normal ⟨.inr hb7, hK _ _ ?_⟩
  clear hK K
  have hT7 := ((hT4.on hb5).on hb6).on hb7
  refine wpPlanL_call rfl (fun K hK => ?_)
  go_wp2_with fail
  refine (HAO.out _ _ hv6 hT7).mono ?_
  rintro e w8 ⟨v8, ⟨rfl, hv8⟩, hb8⟩
  go_wp2_with fail
  refine planPostL_normal ⟨.inr hb8, hK _ _ ?_⟩
  clear hK K
  obtain ⟨Li, rfl, hLi, hLi1⟩ := hv5.cells
  obtain ⟨Lo, rfl, hLo, hLo1⟩ := hv8.cells
  have hb24 : Below w2.heap.size w2 w4 := hb3.trans (hb4.mono hb3.size)
  have hb25 : Below w2.heap.size w2 w5 := hb24.trans (hb5.mono hb24.size)
  have hb26 : Below w2.heap.size w2 w6 := hb25.trans (hb6.mono hb25.size)
  have hb27 : Below w2.heap.size w2 w7 := hb26.trans (hb7.mono hb26.size)
  have hb28 : Below w2.heap.size w2 w8 := hb27.trans (hb8.mono hb27.size)
  refine wpPlanL_run rfl rfl _ (fun x => build_plain 103 _ _ rfl Li Lo rfl rfl x.world _ (build_keyed Li Lo hLi hLo x.world)) ?_
  have hszK : Hid ((Tryd.prog.info? 103).map (·.size) = some (Li ++ Lo).length) := by show _ = _; rw [List.length_append, hLi, hLo]; exact size_key
  have h1 : ∀ u ∈ Li ++ Lo, u.oneCell' = true := fun u hu => (List.mem_append.1 hu).elim (hLi1 u) (hLo1 u)
  refine wpPlanL_call rfl (fun K hK => ?_)
  refine wpList_row_store rfl 103 _ _ rfl (Li ++ Lo) rfl rfl (hR2.out.below hb28 hR2.out.lt) hszK.out (by rw [List.length_append, hLi, hLo, Array.length_toList, zero_key]) h1 ?_
  intro w9 hW9 ho9
  refine wpList_end (planPostL_normal ⟨.inl rfl, hK _ _ ?_⟩)
  clear hK K
  refine wpPlanL_nil ?_
  have hfin : Hid (KVal key (.agg (Li ++ Lo).toArray)) := ⟨Li, Lo, rfl, ⟨by simpa using hv5, hLi, hLi1⟩, ⟨by simpa using hv8, hLo, hLo1⟩⟩
  clear hv3 hv5 hv6 hv8 hLi1 hLo1 h1
  go_wp2_with fail
  refine bodyPost_ret (ret_blk rfl _ w9 (g := w.heap.size) rfl hW9.out _ Tryd.underlying103 rfl hszK.out) rfl ?_
  exact ⟨⟨_, rfl, hfin.out⟩, (hB2.trans (hb28.mono hB2.size)).trans (ho9.below (Nat.le_refl _))⟩
end Go.Proofs.YtedhjjlnionckaaDoor
