/-
  Contracts of stage 2: keyed hashes. Contracts of stage 2: Hmac, Mac. Contracts of stage 2: Of, Mac. Contracts of stage 2: Mac. Contracts of stage 2: Expand.
-/
import Derived.Test.YtlgokfgiemaklaaDoorPbk
import Derived.Laws.MakeOwn
namespace Go.Proofs.YtlgokfgiemaklaaDoor
set_option linter.unusedVariables false
open Go.RowKit

def ipad (key : List UInt8) : List UInt8 := (Sha.block key).map (· ^^^ 0x36)
def opad (key : List UInt8) : List UInt8 := (Sha.block key).map (· ^^^ 0x5c)
theorem ipad_len (key : List UInt8) : (ipad key).length = 64 := by unfold ipad; rw [List.length_map, Sha.block_len]
theorem opad_len (key : List UInt8) : (opad key).length = 64 := by unfold opad; rw [List.length_map, Sha.block_len]
theorem hmac_pads (key msg : List UInt8) : Sha.hmac key msg = Sha.sum (opad key ++ Sha.sum (ipad key ++ msg)) := rfl
/-- The value that a key makes. -/
def KVal (key : List UInt8) (v : Value) : Prop := ∃ Li Lo : List Value, v = .agg (Li ++ Lo).toArray ∧ (SVal (ipad key) (.agg Li.toArray) ∧ Li.length = 73 ∧ ∀ u ∈ Li, u.oneCell' = true) ∧ (SVal (opad key) (.agg Lo.toArray) ∧ Lo.length = 73 ∧ ∀ u ∈ Lo, u.oneCell' = true)
section
variable {P : Program} {ops : Array Oper} {Q : Exit → Act → World → Prop} {L : Nat}
/-- In a plan: a plain operation whose run is known. -/
theorem wpPlanL_run {i : Nat} {o : Oper} {rest : List (Bool × Nat)} {a : Act} {w : World} (ho : ops[i]? = some o) (hgd : o.guard = none) (v : Value) (hv : ∀ x : ExtOf w, (execOp a.eval o).run P x.world = .ok (.value v) x.world)
    (h : wpPlanL P ops Q L rest (a.put o.dst v) w) : wpPlanL P ops Q L ((true, i) :: rest) a w := by
  unfold wpPlanL
  simp only [ho]
  rw [if_pos (by simp [Region.wanted, hgd])]
  exact ⟨_, hv, h⟩
theorem build_plain {o : Oper} {a : Act} (t : TypeId) (x y : Operand) (hop : o.op = .build t #[(0, x), (1, y)]) (A B : List Value) (hx : a.eval x = .agg A.toArray) (hy : a.eval y = .agg B.toArray) (W : World) (v : Value)
    (hrun : (Instr.build t #[(0, .agg A.toArray), (1, .agg B.toArray)]).run P W = .ok v W) : (execOp a.eval o).run P W = .ok (.value v) W := by
  unfold execOp
  simp only [hop, List.map_toArray, List.map_cons, List.map_nil, hx, hy, Sem.run_bind, Sem.run_pure, hrun, Result.andThen_ok]
end
end Go.Proofs.YtlgokfgiemaklaaDoor

namespace Go.Proofs.YtlgokfgiemaklaaDoor
set_option linter.unusedVariables false
open Go.RowKit

theorem Tab.drew {g : Nat} {w : World} (h : Tab g w) : Tab g w.drew := h

theorem bytes_one_le {a b : Nat} (h : a ≤ b) : a ≤ b := h

end Go.Proofs.YtlgokfgiemaklaaDoor

namespace Go.Proofs.YtlgokfgiemaklaaDoor
set_option linter.unusedVariables false
open Go.RowKit

theorem size_dig16 (D : List Value) (h : D.length = 16) : (Tryd.prog.info? 31).map (·.size) = some D.length := by rw [h]; exact size_dig

set_option maxRecDepth 100000 in
set_option maxHeartbeats 2000000 in
theorem of_any (tag : Int) (parts : List (List UInt8)) (A : Option Addr) (c : Nat) (w : World) (hr : Rds w w.heap.size A (parts.map sv)) (hn : parts.length ≤ 1000000) (hlen : (Sha.message parts).length ≤ 100000000) (ht : Tab 2 w) :
    Calls Tryd.prog 37 #[.int .i64 tag, .slice A parts.length c] w fun e w' => e = .returned (av (Sha.hashOf tag parts)) ∧ Below w.heap.size w w' := by
  obtain ⟨b, hb⟩ : ∃ b, b = UInt8.ofNat (tag % 256).toNat := ⟨_, rfl⟩
  have hin : Sha.input tag parts = [b] ++ Sha.message parts := by rw [hb]; rfl
  have hil : (Sha.input tag parts).length ≤ 1000000000 := by rw [hin, List.length_append, List.length_singleton]; omega
  have hbn : b.toNat = (tag % 256).toNat := by rw [hb]; exact Wm.toNat_ofNat (by omega)
  have ew : IntKind.u8.wrap tag = (b.toNat : Int) := by rw [IntKind.wrap_u8, hbn]; omega
  have hZl := Sha.sum_len (Sha.input tag parts)
  have HA := Lib.hid (fun v W (h : SVal [] v) (hT : Tab 2 W) => add_v [] [b] v W h (by simp) hT)
  have HP := Lib.hid (fun v W (h : SVal [b] v) (hrW : Rds W W.heap.size A (parts.map sv)) (hT : Tab 2 W) => addParts_any [b] parts v A c W h hrW (by omega) (by rw [List.length_singleton]; omega) hT)
  have HM := Lib.hid (fun v W (h : SVal (Sha.input tag parts) v) (hT : Tab 2 W) => sum_v (Sha.input tag parts) v W h hil hT)
  have HD := Lib.hid (fun W => digest_any (Sha.sum (Sha.input tag parts)) W hZl)
  rw [← hin] at HP
  change Hid (∀ W, Calls _ _ _ W fun e w' => e = .returned (av (Sha.hashOf tag parts)) ∧ _) at HD
  have hDl : ((Sha.hashOf tag parts).map bv).length = 16 := by unfold Sha.hashOf; rw [List.length_map, List.length_take, hZl]; rfl
  have hD1 := av_one (Sha.hashOf tag parts)
  have hszD := Lib.hid (size_dig16 _ hDl)
  unfold av at HM HD ⊢
  generalize (Sha.hashOf tag parts).map bv = D at HD hDl hD1 hszD ⊢
  generalize (Sha.sum (Sha.input tag parts)).map bv = Z at HM HD
  have hcv : Hid (∀ W B A, Rds W B A ([b].map bv) → (convert 75 9 (.slice A 1 1)).run Tryd.prog W = .ok (.string (bs [b])) W) := fun W B A h => run_bytes_bs (P := Tryd.prog) W 75 9 5 Tryd.underlying75 Tryd.underlying5 Tryd.underlying9 1 h
  have hbl : Hid (∀ W : World, Blk (W.alloc (.cells #[.int .u8 (b.toNat : Int)] 5)) W.heap.size ([b].map bv) 5) := fun W => Blk.new W ([b].map bv) 5
  unfold sv at HA
  generalize bs [b] = S at HA hcv
  have hR0 := Blk.new w (bz 16) 31
  have hB0 : Below w.heap.size w (w.alloc (.cells (bz 16).toArray 31)) := (Below.refl _ _).alloc (Nat.le_refl _) _
  have hT0 := ht.on hB0
  have hr0 := (hr.below hB0).more hB0.size
  clear hb hin hil hbn hZl hn hlen ht hr
  go_enter Tryd.func37, Tryd.ntmps37
  go_wp2_with fail
  refine wp_region_tree 10 (.plain 1 (.plain 2 (.plain 6 (.two 0 (.one 3 (.plain 4 (.one 5 (.one 7 (.one 8 (.one 9 (.one 10 .stop))))))) 3 (.plain 4 (.one 0 (.one 5 (.one 7 (.one 8 (.one 9 (.one 10 .stop))))))))))) (by kernel_rfl) (by decide) (by kernel_rfl) (by kernel_rfl) (by decide) (by intro c a d v w h; cases d <;> exact h) ?_
  change wpTree _ _ _ _ _ _ (World.drew (w.alloc (.cells (bz 16).toArray 31)))
  generalize w.alloc (.cells (bz 16).toArray 31) = w1 at hR0 hB0 hr0 hT0
  have hR0 : Blk w1.drew w.heap.size (bz 16) 31 := hR0
  have hB0 : Below w.heap.size w w1.drew := hB0.drew
  have hT0 := hT0.drew
  have hr0 : Rds w1.drew w1.drew.heap.size A (parts.map sv) := hr0
  generalize w1.drew = w2 at hR0 hB0 hT0 hr0
  iterate 3 (refine wpTree_plain rfl (fun K hK => ?_); go_simp; refine hK _ ?_; clear hK K)
  refine wpTree_two rfl rfl (fun K hK => ?_) (fun K hK => ?_)
  · go_wp2_with fail
    refine (begin_v _).mono ?_
    rintro e w3 ⟨v3, ⟨rfl, hv3⟩, hb3⟩
    go_wp2_with fail
    refine planPostL_normal ⟨.inr hb3, hK _ _ ?_⟩
    clear hK K
    refine wpTree_one rfl (fun K hK => ?_)
    go_wp2_with fail
    have hb34 : Below w3.heap.size w3 (w3.alloc (.cells #[.int .u8 (b.toNat : Int)] 5)) := (Below.refl _ _).alloc (Nat.le_refl _) _
    refine planPostL_normal ⟨.inr hb34, hK _ _ ?_⟩
    clear hK K
    have hbk := hbl.out w3
    generalize w3.alloc (.cells #[.int .u8 (b.toNat : Int)] 5) = w4 at hb34 hbk
    have hcx := fun x : ExtOf w4 => hcv.out x.world _ _ ((hbk.below x.ext hbk.lt).rds 0 1)
    iterate 1 (refine wpTree_plain rfl (fun K hK => ?_); go_simp; refine hK _ ?_; clear hK K)
    clear hcx
    have hT4 := (hT0.on hb3).on hb34
    have hb24 : Below w2.heap.size w2 w4 := hb3.trans (hb34.mono hb3.size)
    refine wpTree_one rfl (fun K hK => ?_)
    go_wp2_with fail
    refine (HA.out _ _ hv3 hT4).mono ?_
    rintro e w5 ⟨v5, ⟨rfl, hv5⟩, hb5⟩
    go_wp2_with fail
    refine planPostL_normal ⟨.inr hb5, hK _ _ ?_⟩
    clear hK K
    have hT5 := hT4.on hb5
    have hr5 := (hr0.below (hb24.trans (hb5.mono hb24.size))).more (Nat.le_trans hb24.size hb5.size)
    have hb25 : Below w2.heap.size w2 w5 := hb24.trans (hb5.mono hb24.size)
    refine wpTree_one rfl (fun K hK => ?_)
    go_wp2_with fail
    refine (HP.out _ _ hv5 hr5 hT5).mono ?_
    rintro e w6 ⟨v6, ⟨rfl, hv6⟩, hb6⟩
    go_wp2_with fail
    refine planPostL_normal ⟨.inr hb6, hK _ _ ?_⟩
    clear hK K
    have hT6 := hT5.on hb6
    refine wpTree_one rfl (fun K hK => ?_)
    go_wp2_with fail
    refine (HM.out _ _ hv6 hT6).mono ?_
    rintro e w7 ⟨rfl, hb7⟩
    go_wp2_with fail
    refine planPostL_normal ⟨.inr hb7, hK _ _ ?_⟩
    clear hK K
    refine wpTree_one rfl (fun K hK => ?_)
    go_wp2_with fail
    refine (HD.out _).mono ?_
    rintro e w8 ⟨rfl, hb8⟩
    go_wp2_with fail
    refine planPostL_normal ⟨.inr hb8, hK _ _ ?_⟩
    clear hK K
    have hb26 : Below w2.heap.size w2 w6 := hb25.trans (hb6.mono hb25.size)
    have hb27 : Below w2.heap.size w2 w7 := hb26.trans (hb7.mono hb26.size)
    have hb28 : Below w2.heap.size w2 w8 := hb27.trans (hb8.mono hb27.size)
    refine wpTree_one rfl (fun K hK => ?_)
    refine wpList_row_store rfl 31 _ _ rfl D rfl rfl (hR0.below hb28 hR0.lt) hszD.out hDl hD1 ?_
    intro w9 hW9 ho9
    refine wpList_end (planPostL_normal ⟨.inl rfl, hK _ _ ?_⟩)
    clear hK K hv3 hv5 hv6 hr0 hr5
    refine wpTree_stop ?_
    go_wp2_with fail
    exact bodyPost_ret (ret_blk rfl _ w9 (g := w.heap.size) rfl hW9.out (.array 16 5) arr_dig rfl hszD.out) rfl ⟨rfl, (hB0.trans (hb28.mono hB0.size)).trans (ho9.below (Nat.le_refl _))⟩
  · go_wp2_with fail
    have hb34 : Below w2.heap.size w2 (w2.alloc (.cells #[.int .u8 (b.toNat : Int)] 5)) := (Below.refl _ _).alloc (Nat.le_refl _) _
    refine planPostL_normal ⟨.inr hb34, hK _ _ ?_⟩
    clear hK K
    have hbk := hbl.out w2
    generalize w2.alloc (.cells #[.int .u8 (b.toNat : Int)] 5) = w3 at hb34 hbk
    have hcx := fun x : ExtOf w3 => hcv.out x.world _ _ ((hbk.below x.ext hbk.lt).rds 0 1)
    iterate 1 (refine wpTree_plain rfl (fun K hK => ?_); go_simp; refine hK _ ?_; clear hK K)
    clear hcx
    refine wpTree_one rfl (fun K hK => ?_)
    go_wp2_with fail
    refine (begin_v _).mono ?_
    rintro e w4 ⟨v3, ⟨rfl, hv3⟩, hb4⟩
    go_wp2_with fail
    refine planPostL_normal ⟨.inr hb4, hK _ _ ?_⟩
    clear hK K
    have hT4 := (hT0.on hb34).on hb4
    have hb24 : Below w2.heap.size w2 w4 := hb34.trans (hb4.mono hb34.size)
    refine wpTree_one rfl (fun K hK => ?_)
    go_wp2_with fail
    refine (HA.out _ _ hv3 hT4).mono ?_
    rintro e w5 ⟨v5, ⟨rfl, hv5⟩, hb5⟩
    go_wp2_with fail
    refine planPostL_normal ⟨.inr hb5, hK _ _ ?_⟩
    clear hK K
    have hT5 := hT4.on hb5
    have hr5 := (hr0.below (hb24.trans (hb5.mono hb24.size))).more (Nat.le_trans hb24.size hb5.size)
    have hb25 : Below w2.heap.size w2 w5 := hb24.trans (hb5.mono hb24.size)
    refine wpTree_one rfl (fun K hK => ?_)
    go_wp2_with fail
    refine (HP.out _ _ hv5 hr5 hT5).mono ?_
    rintro e w6 ⟨v6, ⟨rfl, hv6⟩, hb6⟩
    go_wp2_with fail
    refine planPostL_normal ⟨.inr hb6, hK _ _ ?_⟩
    clear hK K
    have hT6 := hT5.on hb6
    refine wpTree_one rfl (fun K hK => ?_)
    go_wp2_with fail
    refine (HM.out _ _ hv6 hT6).mono ?_
    rintro e w7 ⟨rfl, hb7⟩
    go_wp2_with fail
    refine planPostL_normal ⟨.inr hb7, hK _ _ ?_⟩
    clear hK K
    refine wpTree_one rfl (fun K hK => ?_)
    go_wp2_with fail
    refine (HD.out _).mono ?_
    rintro e w8 ⟨rfl, hb8⟩
    go_wp2_with fail
    refine planPostL_normal ⟨.inr hb8, hK _ _ ?_⟩
    clear hK K
    have hb26 : Below w2.heap.size w2 w6 := hb25.trans (hb6.mono hb25.size)
    have hb27 : Below w2.heap.size w2 w7 := hb26.trans (hb7.mono hb26.size)
    have hb28 : Below w2.heap.size w2 w8 := hb27.trans (hb8.mono hb27.size)
    refine wpTree_one rfl (fun K hK => ?_)
    refine wpList_row_store rfl 31 _ _ rfl D rfl rfl (hR0.below hb28 hR0.lt) hszD.out hDl hD1 ?_
    intro w9 hW9 ho9
    refine wpList_end (planPostL_normal ⟨.inl rfl, hK _ _ ?_⟩)
    clear hK K hv3 hv5 hv6 hr0 hr5
    refine wpTree_stop ?_
    go_wp2_with fail
    exact bodyPost_ret (ret_blk rfl _ w9 (g := w.heap.size) rfl hW9.out (.array 16 5) arr_dig rfl hszD.out) rfl ⟨rfl, (hB0.trans (hb28.mono hB0.size)).trans (ho9.below (Nat.le_refl _))⟩
end Go.Proofs.YtlgokfgiemaklaaDoor

namespace Go.Proofs.YtlgokfgiemaklaaDoor
set_option linter.unusedVariables false
open Go.RowKit
end Go.Proofs.YtlgokfgiemaklaaDoor

namespace Go.Proofs.YtlgokfgiemaklaaDoor
set_option linter.unusedVariables false
open Go.RowKit

/-- A row of the call's own is one still behind a call that leaves all that was there. -/
theorem own_below {w w' : World} {base : Nat} {v : Value} {l : List UInt8} (h : OwnB w base v l) (hb : Below w.heap.size w w') : OwnB w' base v l := by
  refine ⟨h.1, ?_⟩
  rcases h.2 with hn | ⟨g, cap, cur, rfl, hg, hh, rest⟩
  · exact .inl hn
  · refine .inr ⟨g, cap, cur, rfl, hg, ?_, rest⟩
    rw [hb.block g (Array.getElem?_eq_some_iff.1 hh).1]
    exact hh

end Go.Proofs.YtlgokfgiemaklaaDoor
