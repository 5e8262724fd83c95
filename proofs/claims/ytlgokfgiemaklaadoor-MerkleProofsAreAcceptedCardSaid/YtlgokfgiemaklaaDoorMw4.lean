/-
  MerkleProofsAreAccepted: the walk. (Written by tools/genm4.py.)
-/
import Derived.Test.YtlgokfgiemaklaaDoorMpa
import Derived.Test.YtlgokfgiemaklaaDoorOmk
import Derived.Test.YtlgokfgiemaklaaDoorSn3
namespace Go
open Go.RowKit
section
variable {P : Program} {ops : Array Oper} {Q : Exit → Act → World → Prop} {md : Region.Mode} {S : World → Prop}
/-- An operation of a plan that is not wanted. -/
theorem wpPlanH_idle {i : Nat} {o : Oper} {rest : List Nat} {fuel : Nat} {listed : Array Bool} {a : Act} {w : World} (ho : ops[i]? = some o) (hw : Region.wanted o (yielded ops a.tmps) = false)
    (h : wpPlanH P md ops Q S rest fuel (listed.setIfInBounds i true) (a.put o.dst undef) w) : wpPlanH P md ops Q S (i :: rest) fuel listed a w := by
  unfold wpPlanH
  simp only [ho]
  rw [if_neg (by rw [hw]; simp)]
  exact h
/-- A goal in a box: nothing looks into it. -/
structure Bx (p : Prop) : Prop where
  out : p
theorem wpPlanB_idle {i : Nat} {o : Oper} {rest : List Nat} {fuel : Nat} {listed : Array Bool} {a : Act} {w : World} (ho : ops[i]? = some o) (hw : Region.wanted o (yielded ops a.tmps) = false)
    (h : Bx (wpPlanH P md ops Q S rest fuel (listed.setIfInBounds i true) (a.put o.dst undef) w)) : Bx (wpPlanH P md ops Q S (i :: rest) fuel listed a w) := ⟨wpPlanH_idle ho hw h.out⟩
theorem wpPlanB_idleK {i : Nat} {o : Oper} {rest : List Nat} {fuel : Nat} {listed : Array Bool} {a : Act} {w : World} (ho : ops[i]? = some o) (hw : Region.wanted o (yielded ops a.tmps) = false)
    (h : ∀ K : Act → Prop, (∀ a, Bx (wpPlanH P md ops Q S rest fuel (listed.setIfInBounds i true) a w) → K a) → K (a.put o.dst undef)) : Bx (wpPlanH P md ops Q S (i :: rest) fuel listed a w) := wpPlanB_idle ho hw (h (fun a => Bx (wpPlanH P md ops Q S rest fuel (listed.setIfInBounds i true) a w)) fun _ hb => hb)
theorem wpOp_idleK {K : Act → World → Prop} {a : Act} {w : World} {i : Nat} {o : Oper} (ho : ops[i]? = some o) (hw : Region.wanted o (yielded ops a.tmps) = false) (h : ∀ J : Act → Prop, (∀ a, K a w → J a) → J (a.put o.dst undef)) : wpOp P ops Q i K a w := by
  unfold wpOp
  simp only [ho]
  rw [if_neg (by rw [hw]; simp)]
  exact h (fun a => K a w) fun _ hb => hb
theorem wpPlanB_plain {i : Nat} {o : Oper} {rest : List Nat} {fuel : Nat} {listed : Array Bool} {a : Act} {w : World} (ho : ops[i]? = some o)
    (h : ∀ K : Act → Prop, (∀ a, Bx (wpPlanH P md ops Q S rest fuel (listed.setIfInBounds i true) a w) → K a) → if Region.wanted o (yielded ops a.tmps) then ∃ v, (∀ x : SOf S, (execOp a.eval o).run P x.world = .ok (.value v) x.world) ∧ K (a.put o.dst v) else K (a.put o.dst undef)) :
    Bx (wpPlanH P md ops Q S (i :: rest) fuel listed a w) := ⟨wpPlanH_plain ho fun K hK => h K fun a hb => hK a hb.out⟩
theorem wpPlanB_runW {i : Nat} {o : Oper} {rest : List Nat} {fuel : Nat} {listed : Array Bool} {a : Act} {w : World} (ho : ops[i]? = some o) (hw : Region.wanted o (yielded ops a.tmps) = true) (v : Value) (hv : ∀ x : SOf S, (execOp a.eval o).run P x.world = .ok (.value v) x.world)
    (h : Bx (wpPlanH P md ops Q S rest fuel (listed.setIfInBounds i true) (a.put o.dst v) w)) : Bx (wpPlanH P md ops Q S (i :: rest) fuel listed a w) := ⟨wpPlanH_runW ho hw v hv h.out⟩
theorem move_run {o : Oper} {a : Act} (x : Operand) (ho : o.op = .move x ∨ o.op = .assign x) (v : Value) (hx : a.eval x = v) (W : World) : (execOp a.eval o).run P W = .ok (.value v) W := by
  unfold execOp
  rcases ho with ho | ho <;> simp only [ho, Sem.run_pure, hx]
theorem pick_run {o : Oper} {a : Act} (c x y : Operand) (ho : o.op = .pick c x y) (b : Bool) (hc : a.eval c = .bool b) (W : World) : (execOp a.eval o).run P W = .ok (.value (if b then a.eval x else a.eval y)) W := by
  unfold execOp
  cases b <;> simp [ho, hc, asBool]
theorem pick_true {o : Oper} {a : Act} (c x y : Operand) (ho : o.op = .pick c x y) (v : Value) (hc : a.eval c = .bool true) (hx : a.eval x = v) (W : World) : (execOp a.eval o).run P W = .ok (.value v) W := by
  rw [pick_run c x y ho true hc, if_pos rfl, hx]
theorem wpOp_idleH {K : Act → World → Prop} {a : Act} {w : World} {i : Nat} {o : Oper} (ho : ops[i]? = some o) (hw : Region.wanted o (yielded ops a.tmps) = false) (h : K (a.put o.dst undef) w) : wpOp P ops Q i K a w := by
  unfold wpOp
  simp only [ho]
  rw [if_neg (by rw [hw]; simp)]
  exact h
end
end Go
namespace Go.Proofs.YtlgokfgiemaklaaDoor
set_option linter.unusedVariables false
set_option linter.unusedSimpArgs false
open Go.RowKit


/-- The places that are chosen, and what stands there. -/
def chP (ch : Nat) : Nat → List Int
  | 0 => []
  | k + 1 => if ch / 2 ^ k % 2 = 1 then chP ch k ++ [(k : Int)] else chP ch k
def chF (ch : Nat) (L : List (List UInt8)) : Nat → List (List UInt8)
  | 0 => []
  | k + 1 => if ch / 2 ^ k % 2 = 1 then chF ch L k ++ [nx L k] else chF ch L k
theorem chP_mem {ch : Nat} : ∀ {k : Nat} {p : Int}, p ∈ chP ch k → 0 ≤ p ∧ p < (k : Int)
  | 0, p, h => by simp [chP] at h
  | k + 1, p, h => by
    unfold chP at h
    split at h
    · rcases List.mem_append.1 h with h | h
      · have := chP_mem h; omega
      · rw [List.mem_singleton.1 h]; omega
    · have := chP_mem h; omega
theorem chP_len (ch : Nat) (L : List (List UInt8)) : ∀ k, (chF ch L k).length = (chP ch k).length ∧ (chP ch k).length ≤ k
  | 0 => ⟨rfl, Nat.le_refl _⟩
  | k + 1 => by
    have := chP_len ch L k
    unfold chP chF
    split
    · simp; omega
    · omega
theorem chP_at (ch : Nat) (L : List (List UInt8)) : ∀ (k : Nat), k ≤ L.length → ∀ (i : Nat) (a : Int), (chP ch k)[i]? = some a → (chF ch L k)[i]? = L[a.toNat]?
  | 0, _, i, a, h => by simp [chP] at h
  | k + 1, hk, i, a, h => by
    have hl := chP_len ch L k
    unfold chP at h
    unfold chF
    split at h
    · rename_i hb
      rw [if_pos hb]
      by_cases hi : i < (chP ch k).length
      · rw [List.getElem?_append_left hi] at h
        rw [List.getElem?_append_left (by omega)]
        exact chP_at ch L k (by omega) i a h
      · rw [List.getElem?_append_right (by omega)] at h
        rw [List.getElem?_append_right (by omega), hl.1]
        have hz : i - (chP ch k).length = 0 := by
          rcases Nat.eq_zero_or_pos (i - (chP ch k).length) with h0 | h0
          · exact h0
          · rw [List.getElem?_eq_none (by simp; omega)] at h; cases h
        rw [hz] at h ⊢
        obtain rfl : (k : Int) = a := by simpa using h
        show some (nx L k) = _
        unfold nx
        rw [List.getD_eq_getElem?_getD, show ((k : Int)).toNat = k by omega, List.getElem?_eq_getElem (by omega)]
        rfl
    · rename_i hb
      rw [if_neg hb]
      exact chP_at ch L k (by omega) i a h
theorem chF_d16 {L : List (List UInt8)} (hd : D16 L) (ch : Nat) : ∀ k, D16 (chF ch L k)
  | 0 => d16_nil
  | k + 1 => by
    unfold chF
    split
    · exact d16_app (chF_d16 hd ch k) (d16_one (nx_len hd k))
    · exact chF_d16 hd ch k
theorem ascGo_snoc {n : Int} : ∀ (ps : List Int) (l x : Int), ascGo n l ps = true → (∀ p ∈ ps, p < x) → l ≤ x → x < n → ascGo n l (ps ++ [x]) = true
  | [], l, x, _, _, h1, h2 => by
    show (if x < l ∨ n ≤ x then false else ascGo n (x + 1) []) = true
    rw [if_neg (by omega)]; rfl
  | p :: ps, l, x, h, hp, h1, h2 => by
    unfold ascGo at h
    split at h
    · cases h
    · rename_i hc
      show (if p < l ∨ n ≤ p then false else ascGo n (p + 1) (ps ++ [x])) = true
      rw [if_neg hc]
      have := hp p (by simp)
      exact ascGo_snoc ps (p + 1) x h (fun q hq => hp q (by simp [hq])) (by omega) h2
theorem chP_asc (ch n : Nat) : ∀ k, k ≤ n → ascGo (n : Int) 0 (chP ch k) = true
  | 0, _ => rfl
  | k + 1, h => by
    unfold chP
    split
    · exact ascGo_snoc _ _ _ (chP_asc ch n k (by omega)) (fun p hp => (chP_mem hp).2) (by omega) (by omega)
    · exact chP_asc ch n k (by omega)
theorem Gr0.of {r : Option Nat} {a b : World} (h : Below a.heap.size a b) : a.grownBy b r := ⟨h.os, h.tape, h.output, h.size, fun i hi _ => h.block i hi⟩
/-- Rows whose blocks are apart. -/
def Apt (u v : Value) : Prop := ∀ g, u.ownBlock = some g → v.ownBlock ≠ some g
theorem Apt.symm {u v : Value} (h : Apt u v) : Apt v u := fun g h1 h2 => h g h2 h1
theorem ownsRow_onto {w w' : World} {base size n : Nat} {e : TypeId} {xs : List Value} {u v v' : Value} (h : w.ownsRow base e size u n xs) (hg : w.grownBy w' v.ownBlock) (ho : v'.ownBlock = v.ownBlock ∨ ∃ k, v'.ownBlock = some k ∧ w.heap.size ≤ k) (ha : Apt u v) : w'.ownsRow base e size u n xs ∧ Apt u v' := by
  refine ⟨?_, fun g h1 h2 => ?_⟩
  · cases hu : u.ownBlock with
    | none => exact World.ownsRow.kept h hg (.inl hu)
    | some g => exact World.ownsRow.kept h hg (.inr (fun e => ha g hu (by rw [← e, hu])))
  · have hlt := (h.lt g h1).2
    rcases ho with e | ⟨k, e, hk⟩
    · rw [e] at h2; exact ha g h1 h2
    · rw [e] at h2
      have : k = g := Option.some.inj h2
      omega
theorem push_intO {w0 : World} {ops : Array Oper} {rest : List Oper} {o : Oper} {a : Act} {Q : Exit → Act → World → Prop} (hgd : o.guard = none) (s x : Operand)
    (ho : o.op = .call { callee := .builtin .append, args := #[s, x], argTypes := #[37, 37] })
    (base : Nat) (v : Value) (l : List Int) (b : Int) (hs : a.eval s = v) (hx : a.eval x = .slice (some ⟨w0.heap.size, 0, none⟩) 1 1)
    (hown : OwnI w0 base v l) (hlen : l.length ≤ 1000000000000) (hbase : base ≤ w0.heap.size)
    (h : ∀ v' w', OwnI w' base v' (l ++ [b]) → Below base w0 w' → w0.grownBy w' v.ownBlock → (v'.ownBlock = v.ownBlock ∨ ∃ k, v'.ownBlock = some k ∧ w0.heap.size ≤ k) → wpList Tryd.prog ops Q rest (a.put o.dst v') w') :
    wpList Tryd.prog ops Q (o :: rest) a (w0.alloc (.cells #[.int .i64 b] 3)) := by
  obtain ⟨i0, hi, hz0, hz1, hz2⟩ := info_parts infoInt
  refine wpList_push hgd s x 37 ho base 3 i0 (.int .i64 0) 8 Tryd.underlying37 hi hz0 hz1 hz2 rfl v l.length (l.map iv) (iv b) hs hx rfl hown (by omega) (by unfold maxLen; omega) hbase ?_
  intro v' w' h1 h2
  exact h v' w' (by unfold OwnI; simpa using h1) (h2.below hown hbase) h2.1 h2.2
theorem push_dgO {w0 : World} {ops : Array Oper} {rest : List Oper} {o : Oper} {a : Act} {Q : Exit → Act → World → Prop} (hgd : o.guard = none) (s x : Operand)
    (ho : o.op = .call { callee := .builtin .append, args := #[s, x], argTypes := #[22, 22] })
    (base : Nat) (v : Value) (L : List (List UInt8)) (d : List UInt8) (hd : d.length = 16) (hs : a.eval s = v) (hx : a.eval x = .slice (some ⟨w0.heap.size, 0, none⟩) 1 1)
    (hown : OwnD w0 base v L) (hlen : L.length ≤ 1000000000000) (hbase : base ≤ w0.heap.size)
    (h : ∀ v' w', OwnD w' base v' (L ++ [d]) → Below base w0 w' → w0.grownBy w' v.ownBlock → (v'.ownBlock = v.ownBlock ∨ ∃ k, v'.ownBlock = some k ∧ w0.heap.size ≤ k) → wpList Tryd.prog ops Q rest (a.put o.dst v') w') :
    wpList Tryd.prog ops Q (o :: rest) a (w0.alloc (.cells (d.map bv).toArray 31)) := by
  obtain ⟨i0, hi, hz0, hz1, hz2⟩ := info_parts infoDg
  refine wpList_append_own_at _ hgd s x 22 ho base 31 i0 _ 16 16 Tryd.underlying22 hi hz0 hz1 hz2 rfl (by decide) v L.length _ hs (World.ownsRow.alloc hown _) ⟨w0.heap.size, 0, none⟩ 1 1 (d.map bv) hx (by rw [List.length_map, hd]) (cells_new w0 d _)
    (by intro u hu; obtain ⟨b, _, rfl⟩ := List.mem_map.1 hu; rfl) (by unfold maxLen; omega) (by omega) (by simp; omega) ?_
  intro v' w' h2 h3 _ h5
  refine h v' w' ?_ (((Below.refl _ _).alloc hbase _).grown h3 (by simp; omega) fun _ hk => (hown.lt _ hk).1) ?_ ?_
  · unfold OwnD
    rw [List.length_append, flat_append, flat_one, List.map_append]
    exact h2
  · have hg0 : w0.grownBy (w0.alloc (.cells (d.map bv).toArray 31)) v.ownBlock := Gr0.of ((Below.refl w0.heap.size w0).alloc (Nat.le_refl _) _)
    exact ⟨h3.os.trans hg0.os, h3.tape.trans hg0.tape, h3.output.trans hg0.output, Nat.le_trans hg0.size h3.size, fun i hi hne => (h3.block i (by simp; omega) hne).trans (hg0.block i hi hne)⟩
  · rcases h5 with e | e
    · exact .inl e
    · exact .inr ⟨_, e, by simp⟩

theorem OwnI.iv {w : World} {base : Nat} {v : Value} {l : List Int} (h : OwnI w base v l) (hf : ∀ p ∈ l, Wm.Fits p) : ∃ A n c, v = .slice A n c ∧ IV w A n c l := by
  obtain ⟨A, c, h1, h2, h3, h4, h5⟩ := own_form h
  exact ⟨A, l.length, c, h1, rfl, h5, h2, h4, hf⟩
theorem bit_u64 (ch k : Nat) (h : ch < 18446744073709551616) : (bits BinOp.and IntKind.u64 ((ch : Int) / 2 ^ k) 1 == 1) = decide (ch / 2 ^ k % 2 = 1) := by
  have e : (ch : Int) / 2 ^ k = ((ch / 2 ^ k : Nat) : Int) := by rw [Int.natCast_ediv, Int.natCast_pow]; rfl
  have hl : ch / 2 ^ k ≤ ch := Nat.div_le_self _ _
  rw [e, show (1 : Int) = ((1 : Nat) : Int) from rfl, bits_and_u64_nat _ _ (by omega) (by omega), Nat.and_one_is_mod]
  by_cases h : ch / 2 ^ k % 2 = 1
  · rw [decide_eq_true h, h]; rfl
  · rw [decide_eq_false h]
    simp only [beq_eq_false_iff_ne, ne_eq]
    omega
set_option maxRecDepth 100000 in
set_option maxHeartbeats 16000000 in
theorem walk_acc (A0 : Option Addr) (c0 : Nat) (L : List (List UInt8)) (ia ma ch : Nat) (d : List UInt8) (w : World) (H0 : SlA 16 w A0 L.length c0 L) (hia : ia < 256) (hma : ma < 256) (hch : ch < 18446744073709551616) (hd16 : d.length = 16) (ht : Tbs w) :
    Calls Tryd.prog 6 #[.slice A0 L.length c0, .int .u8 ia, .int .u8 ma, .int .u64 ch, av d] w fun e w' => e = .returned (.bool true) ∧ Below w.heap.size w w' := by
  have R00 := Lib.hid (slA_dv H0)
  have hr0 := H0.reach
  have SA := Lib.hid (fun W (h : Tbs W) => sanity_any3 W h)
  obtain ⟨n0, hn0⟩ : ∃ n, n = L.length := ⟨_, rfl⟩
  have hnL := Lib.hid hn0
  rw [← hn0] at R00 hr0 ⊢
  clear hn0 H0
  have zd : Hid (d.length = 16) := hd16
  have ld : Hid ((d.map bv).length = 16) := by show _ = _; rw [List.length_map, zd.out]
  have sd := Lib.hid (size_dig16 (d.map bv) ld.out)
  have od := av_one d
  obtain ⟨W1, hW1⟩ : ∃ W1, W1 = w.alloc (.cells (d.map bv).toArray 31) := ⟨_, rfl⟩
  have E : Hid (Below w.heap.size w W1) := by show Below _ _ _; rw [hW1]; exact (Below.refl _ _).alloc (Nat.le_refl _) _
  have Bo : Hid (Blk W1 w.heap.size (d.map bv) 31) := by show Blk _ _ _ _; rw [hW1]; exact Blk.new _ _ _
  have R0 := Lib.hid (R00.out.keep E.out)
  have T := Lib.hid (ht.keep E.out)
  have hW1' := Lib.hid hW1
  obtain ⟨gBo, hgBo⟩ : ∃ g, g = w.heap.size := ⟨_, rfl⟩
  have hgo := Lib.hid hgBo
  rw [← hgBo] at Bo
  unfold av
  clear hW1 ht hd16 R00 hgBo
  go_enter Tryd.func6, Tryd.ntmps6
  go_upto_region 1 with fail
  generalize hg : w.alloc _ = Wg
  have hgW : W1 = Wg := by rw [← hg, hW1'.out]
  clear hg hW1'
  subst hgW
  rw [← hgo.out]
  by_cases hb0 : n0 = 0
  · have t0 : ((n0 : Int) == 0) = true := by simp; omega
    clear hb0
    go_wp2_with fail
    refine (SA.out _ T.out).mono ?_
    rintro e v1 ⟨rfl, hb⟩
    replace E := Lib.hid (E.out.trans (hb.mono E.out.size))
    replace T := Lib.hid (T.out.keep hb)
    clear hb
    go_wp2_with fail
    go_ret
    exact ⟨by first | rfl | (go_simp; done), E.out⟩
  by_cases hb1 : 40 < n0
  · have t0 : ((n0 : Int) == 0) = false := by simp; omega
    have t1 : (40 : Int) < (n0 : Int) := by omega
    clear hb0 hb1
    go_wp2_with fail
    refine (SA.out _ T.out).mono ?_
    rintro e v1 ⟨rfl, hb⟩
    replace E := Lib.hid (E.out.trans (hb.mono E.out.size))
    replace T := Lib.hid (T.out.keep hb)
    clear hb
    go_wp2_with fail
    go_ret
    exact ⟨by first | rfl | (go_simp; done), E.out⟩
  have t0 : ((n0 : Int) == 0) = false := by simp; omega
  have t1 : ¬ (40 : Int) < (n0 : Int) := by omega
  have hl0 : n0 ≤ 40 := by omega
  have hl1 : 1 ≤ n0 := by omega
  have hn1 : ¬ (n0 : Int) = 0 := by omega
  obtain ⟨at0, hat0⟩ : ∃ a, a = ia % n0 := ⟨_, rfl⟩
  obtain ⟨f0, hf0⟩ : ∃ a, a = ma % (n0 + 1) := ⟨_, rfl⟩
  have hatn : at0 < n0 := by rw [hat0]; exact Nat.mod_lt _ (by omega)
  have hfn : f0 ≤ n0 := by have := Nat.mod_lt ma (show 0 < n0 + 1 by omega); omega
  have e1 : (ia : Int) % (n0 : Int) = (at0 : Int) := by rw [hat0]; rfl
  have e1' : Int.tmod (ia : Int) (n0 : Int) = (at0 : Int) := by rw [hat0]; rfl
  have e2 : (ma : Int) % ((n0 : Int) + 1) = (f0 : Int) := by rw [hf0]; rfl
  have e2' : Int.tmod (ma : Int) ((n0 : Int) + 1) = (f0 : Int) := by rw [hf0]; rfl
  have hn2 : ¬ (n0 : Int) + 1 = 0 := by omega
  have hfc : Hid (f0 ≤ c0) := by have := R0.out.cap; show _ ≤ _; omega
  have tfc : (f0 : Int) ≤ (c0 : Int) := by have := hfc.out; omega
  have RT : Hid (DV W1 A0 f0 c0 (L.take f0)) := ⟨by rw [List.length_take, ← hnL.out]; omega, R0.out.rd.take R0.out.d16 f0, by have := R0.out.cap; omega, R0.out.max, R0.out.nil, R0.out.d16.take f0⟩
  obtain ⟨x, hx⟩ : ∃ x, L[at0]? = some x := ⟨_, List.getElem?_eq_getElem (by have := hnL.out; omega)⟩
  have hx' := Lib.hid hx
  obtain ⟨r, hr⟩ : ∃ r, r = rt L := ⟨_, rfl⟩
  obtain ⟨q, hq⟩ : ∃ r, r = rt (L.take f0) := ⟨_, rfl⟩
  obtain ⟨X, hX⟩ : ∃ X, X = inQ L at0 := ⟨_, rfl⟩
  obtain ⟨Y, hY⟩ : ∃ Y, Y = csQ L f0 := ⟨_, rfl⟩
  obtain ⟨P, hP⟩ : ∃ P, P = chP ch n0 := ⟨_, rfl⟩
  obtain ⟨V, hV⟩ : ∃ V, V = chF ch L n0 := ⟨_, rfl⟩
  obtain ⟨Z, hZ⟩ : ∃ Z, Z = mnQ L P := ⟨_, rfl⟩
  have hasc : ascGo (L.length : Int) 0 P = true := by rw [hP, ← hnL.out]; exact chP_asc ch n0 n0 (Nat.le_refl _)
  have hPl := chP_len ch L n0
  rw [← hP, ← hV] at hPl
  have hPf : Hid (∀ p ∈ P, Wm.Fits p) := fun p hp => by rw [hP] at hp; have := chP_mem hp; unfold Wm.Fits; omega
  have hVd : Hid (D16 V) := by show D16 _; rw [hV]; exact chF_d16 R0.out.d16 ch n0
  have hPl' := Lib.hid hPl
  have kI : true = chI x at0 n0 X r := by rw [hX, hr, hnL.out]; exact (chI_inc hx (by have := hnL.out; omega)).symm
  have kC : true = chC f0 n0 q r Y := by rw [hq, hr, hY, hnL.out, chC_cs (by have := hnL.out; omega) (by have := hnL.out; omega)]; split <;> simp
  have kM : true = chM n0 P V Z r := by
    rw [hZ, hr, hnL.out]
    exact (chM_mn (by have := hnL.out; omega) (by have := hnL.out; omega) hasc hPl.1 (fun i a h => by rw [hV]; rw [hP] at h; exact chP_at ch L n0 (by have := hnL.out; omega) i a h)).symm
  obtain ⟨bq, hbq⟩ : ∃ b, b = (d == q) := ⟨_, rfl⟩
  obtain ⟨br, hbr⟩ : ∃ b, b = (d == r) := ⟨_, rfl⟩
  have kO : Hid ((f0 = n0 ∨ ∀ s, f0 ≠ 2 ^ s) → bq = chC f0 n0 d r Y) := fun h => by
    rw [hbq, hr, hq, hY, hnL.out]
    exact (chC_other (by have := hnL.out; omega) (by have := hnL.out; omega) (by rw [← hnL.out]; exact h) d).symm
  have kN : Hid (f0 ≠ 0 → br = chC f0 n0 q d Y) := fun h => by
    rw [hbr, hr, hq, hY, hnL.out, chC_cs (by have := hnL.out; omega) (by have := hnL.out; omega), if_neg h]
  have zx : Hid (x.length = 16) := (R0.out.d16 x (List.mem_of_getElem? hx))
  have lx : Hid ((x.map bv).length = 16) := by show _ = _; rw [List.length_map, zx.out]
  have sx := Lib.hid (size_dig16 (x.map bv) lx.out)
  have ox := av_one x
  have zr : Hid (r.length = 16) := (by show _ = _; rw [hr]; exact rt_len R0.out.d16)
  have lr : Hid ((r.map bv).length = 16) := by show _ = _; rw [List.length_map, zr.out]
  have sr := Lib.hid (size_dig16 (r.map bv) lr.out)
  have or := av_one r
  have zq : Hid (q.length = 16) := (by show _ = _; rw [hq]; exact rt_len (R0.out.d16.take f0))
  have lq : Hid ((q.map bv).length = 16) := by show _ = _; rw [List.length_map, zq.out]
  have sq := Lib.hid (size_dig16 (q.map bv) lq.out)
  have oq := av_one q
  have HR := Lib.hid (fun W (h : DV W A0 n0 c0 L) (ht : Tbs W) => root_v h (by omega) ht r hr)
  have HQ := Lib.hid (fun W (h : DV W A0 f0 c0 (L.take f0)) (ht : Tbs W) => root_v h (by omega) ht q hq)
  have HI := Lib.hid (fun W (h : DV W A0 n0 c0 L) (ht : Tbs W) => incl_v h (by omega) ht at0 X 0 hX (by unfold inE; rw [if_pos (by have := hnL.out; omega)]))
  have HC := Lib.hid (fun W (h : DV W A0 n0 c0 L) (ht : Tbs W) => cons_v h (by omega) ht f0 Y 0 hY (by unfold csE; rw [if_pos (by have := hnL.out; omega)]))
  have HM := Lib.hid (fun W A' n' c' (h : DV W A0 n0 c0 L) (h' : IV W A' n' c' P) (hl : n' ≤ 1000000) (ht : Tbs W) => many_v h h' (by omega) hl ht Z 0 hZ (by unfold mnE; rw [if_pos hasc]))
  have CI := Lib.hid (fun W A n c (h : DV W A n c X) (ht : Tbs W) => chI_v x r zx.out zr.out h ht at0 n0 true kI)
  have CC := Lib.hid (fun W A n c (h : DV W A n c Y) (ht : Tbs W) => chC_v q r zq.out zr.out h ht f0 n0 true kC)
  have CM := Lib.hid (fun W A n c A' n' c' Af nf cf (hp : IV W A' n' c' P) (hf : DV W Af nf cf V) (h : DV W A n c Z) (hl : n' ≤ 1000000) (ht : Tbs W) => chM_v r zr.out hp hf h hl ht n0 true kM)
  have CO := Lib.hid (fun (hh : f0 = n0 ∨ ∀ s, f0 ≠ 2 ^ s) W A n c (h : DV W A n c Y) (ht : Tbs W) => chC_v d r zd.out zr.out h ht f0 n0 bq (kO.out hh))
  have CN := Lib.hid (fun (hh : f0 ≠ 0) W A n c (h : DV W A n c Y) (ht : Tbs W) => chC_v q d zq.out zd.out h ht f0 n0 br (kN.out hh))
  have hLx : Hid (∀ W, DV W A0 n0 c0 L → ∃ ad, A0 = some ad ∧ ∀ j v, (x.map bv)[j]? = some v → W.cell? ((ad.add (at0 * 16)).add j) = some v) := fun W h => by
    obtain ⟨ad', he, _, _, hcc⟩ := h.rd.at h.d16 hx'.out
    exact ⟨ad', he, hcc⟩
  obtain ⟨ad0, hA0, _⟩ := hLx.out _ R0.out
  subst hA0
  have tat : (at0 : Int) < (n0 : Int) := by omega
  unfold av at HR HQ CI CC CM CO CN
  have hPe := Lib.hid hP
  have hVe := Lib.hid hV
  have hbq' := Lib.hid hbq.symm
  have hbr' := Lib.hid hbr.symm
  clear hbq hbr hr hq hX hY hP hV hZ hasc hPl kI kC kM hx hat0 hf0 hb0 hb1
  go_wp2_with fail
  refine (HR.out _ R0.out T.out).mono ?_
  rintro e v1 ⟨rfl, hb⟩
  replace Bo := Lib.hid (Bo.out.below hb Bo.out.lt)
  replace R0 := Lib.hid (R0.out.keep hb)
  replace RT := Lib.hid (RT.out.keep hb)
  replace E := Lib.hid (E.out.trans (hb.mono E.out.size))
  replace T := Lib.hid (T.out.keep hb)
  clear hb
  go_upto_region 7 with (refine wpList_row_store rfl 31 _ _ rfl (r.map bv) rfl rfl (Blk.new v1 (bz 16) 31) sr.out (by rw [lr.out]; rfl) or ?_; intro u1 hu1 ho1)
  have hb : Below v1.heap.size v1 u1 := ((Below.refl _ _).alloc (Nat.le_refl _) _).trans (ho1.below (Nat.le_refl _))
  have Br : Hid (Blk u1 v1.heap.size (r.map bv) 31) := hu1
  clear hu1 ho1
  replace Bo := Lib.hid (Bo.out.below hb Bo.out.lt)
  replace R0 := Lib.hid (R0.out.keep hb)
  replace RT := Lib.hid (RT.out.keep hb)
  replace E := Lib.hid (E.out.trans (hb.mono E.out.size))
  replace T := Lib.hid (T.out.keep hb)
  clear hb
  obtain ⟨gBr, hgBr⟩ : ∃ g, g = v1.heap.size := ⟨_, rfl⟩
  rw [← hgBr] at Br ⊢
  clear hgBr
  go_wp2_with fail
  refine (HQ.out _ RT.out T.out).mono ?_
  rintro e v2 ⟨rfl, hb⟩
  replace Bo := Lib.hid (Bo.out.below hb Bo.out.lt)
  replace Br := Lib.hid (Br.out.below hb Br.out.lt)
  replace R0 := Lib.hid (R0.out.keep hb)
  replace RT := Lib.hid (RT.out.keep hb)
  replace E := Lib.hid (E.out.trans (hb.mono E.out.size))
  replace T := Lib.hid (T.out.keep hb)
  clear hb
  go_upto_region 8 with (refine wpList_row_store rfl 31 _ _ rfl (q.map bv) rfl rfl (Blk.new v2 (bz 16) 31) sq.out (by rw [lq.out]; rfl) oq ?_; intro u2 hu2 ho2)
  have hb : Below v2.heap.size v2 u2 := ((Below.refl _ _).alloc (Nat.le_refl _) _).trans (ho2.below (Nat.le_refl _))
  have Bq : Hid (Blk u2 v2.heap.size (q.map bv) 31) := hu2
  clear hu2 ho2
  replace Bo := Lib.hid (Bo.out.below hb Bo.out.lt)
  replace Br := Lib.hid (Br.out.below hb Br.out.lt)
  replace R0 := Lib.hid (R0.out.keep hb)
  replace RT := Lib.hid (RT.out.keep hb)
  replace E := Lib.hid (E.out.trans (hb.mono E.out.size))
  replace T := Lib.hid (T.out.keep hb)
  clear hb
  obtain ⟨gBq, hgBq⟩ : ∃ g, g = v2.heap.size := ⟨_, rfl⟩
  rw [← hgBq] at Bq ⊢
  clear hgBq
  go_wp2_with fail
  refine (HI.out _ R0.out T.out).mono ?_
  rintro e v3 ⟨Aa, na, ca, rfl, h0, hb⟩
  have Ra := Lib.hid h0
  clear h0
  replace Bo := Lib.hid (Bo.out.below hb Bo.out.lt)
  replace Br := Lib.hid (Br.out.below hb Br.out.lt)
  replace Bq := Lib.hid (Bq.out.below hb Bq.out.lt)
  replace R0 := Lib.hid (R0.out.keep hb)
  replace RT := Lib.hid (RT.out.keep hb)
  replace E := Lib.hid (E.out.trans (hb.mono E.out.size))
  replace T := Lib.hid (T.out.keep hb)
  clear hb
  go_wp2_with fail
  refine (HC.out _ R0.out T.out).mono ?_
  rintro e v4 ⟨Ab, nb, cb, rfl, h0, hb⟩
  have Rb := Lib.hid h0
  clear h0
  replace Bo := Lib.hid (Bo.out.below hb Bo.out.lt)
  replace Br := Lib.hid (Br.out.below hb Br.out.lt)
  replace Bq := Lib.hid (Bq.out.below hb Bq.out.lt)
  replace R0 := Lib.hid (R0.out.keep hb)
  replace RT := Lib.hid (RT.out.keep hb)
  replace Ra := Lib.hid (Ra.out.keep hb)
  replace E := Lib.hid (E.out.trans (hb.mono E.out.size))
  replace T := Lib.hid (T.out.keep hb)
  clear hb
  go_wp2_with fail
  have hi0 : Hid (OwnI v4 v4.heap.size (.slice none 0 0) (chP ch 0)) := ownI_nil _ _
  have hi1 : Hid (OwnD v4 v4.heap.size (.slice none 0 0) (chF ch L 0)) := ownD_nil _ _
  have hi2 : Hid (Apt (.slice none 0 0) (.slice none 0 0)) := fun g h => by cases h
  have hi3 : Hid (Below v4.heap.size v4 v4) := Below.refl _ _
  go_loopw [20, 21, 22] (fun va vb vi wr => ∃ k : Nat, k ≤ n0 ∧ vi = .int .i64 k ∧ Hid (OwnI wr v4.heap.size va (chP ch k)) ∧ Hid (OwnD wr v4.heap.size vb (chF ch L k)) ∧ Hid (Apt va vb) ∧ Hid (Below v4.heap.size v4 wr)) (fun _ _ vi _ => n0 - (intOf vi).toNat)
  case atStart => exact ⟨0, by omega, rfl, hi0, hi1, hi2, hi3⟩
  case round =>
    obtain ⟨k, hk, rfl, ho1, ho2, hap, hbw⟩ := hrel
    clear hi0 hi1 hi2 hi3
    have hb := hbw.out
    have RB := Lib.hid R0.out
    replace Bo := Lib.hid (Bo.out.below hb Bo.out.lt)
    replace Br := Lib.hid (Br.out.below hb Br.out.lt)
    replace Bq := Lib.hid (Bq.out.below hb Bq.out.lt)
    replace R0 := Lib.hid (R0.out.keep hb)
    replace RT := Lib.hid (RT.out.keep hb)
    replace Ra := Lib.hid (Ra.out.keep hb)
    replace Rb := Lib.hid (Rb.out.keep hb)
    replace E := Lib.hid (E.out.trans (hb.mono E.out.size))
    replace T := Lib.hid (T.out.keep hb)
    clear hb
    have hsz := hbw.out.size
    by_cases hlt : k < n0
    · have tk : (k : Int) < (n0 : Int) := by omega
      have hll := chP_len ch L k
      have hln : (chP ch k).length ≤ 1000000000000 := by omega
      have hln2 : (chF ch L k).length ≤ 1000000000000 := by omega
      clear hll
      by_cases hbit : ch / 2 ^ k % 2 = 1
      · have hbt : (bits BinOp.and IntKind.u64 ((ch : Int) / 2 ^ k) 1 == 1) = true := by rw [bit_u64 ch k hch]; exact decide_eq_true hbit
        have hP1 : Hid (chP ch (k + 1) = chP ch k ++ [(k : Int)]) := by show _ = _; rw [chP, if_pos hbit]
        have hF1 : Hid (chF ch L (k + 1) = chF ch L k ++ [nx L k]) := by show _ = _; rw [chF, if_pos hbit]
        have hy16 := Lib.hid (nx_len R0.out.d16 k)
        have hLk : Hid (∀ W, DV W (some ad0) n0 c0 L → ∀ j v, ((nx L k).map bv)[j]? = some v → W.cell? ((ad0.add (k * 16)).add j) = some v) := fun W h => by
          have hat : L[k]? = some (nx L k) := by
            unfold nx
            rw [List.getD_eq_getElem?_getD, List.getElem?_eq_getElem (by have := hnL.out; omega)]
            rfl
          obtain ⟨ad', he, _, _, hcc⟩ := h.rd.at h.d16 hat
          injection he with he
          subst he
          exact hcc
        generalize nx L k = y at hF1 hy16 hLk
        have hys := Lib.hid (size_dig16 (y.map bv) (by rw [List.length_map, hy16.out]))
        clear hbit
        go_wp2_with (first | (at_builtin; refine push_intO rfl _ _ rfl v4.heap.size u20 (chP ch k) (k : Int) rfl rfl ho1.out hln hsz ?_; intro va' w1 hoa hba hga hna; have hbO := Lib.hid (ownsRow_onto ho2.out hga hna hap.out.symm); have hB1 := Lib.hid (hbw.out.trans hba); have hsz1 := hB1.out.size; have hcy := Lib.hid (hLk.out w1 (RB.out.keep hB1.out))) | (refine wpList_load_arr rfl 31 _ rfl (ad0.add (k * 16)) rfl (y.map bv) 16 5 hcy.out arr_dig hys.out ?_) | (refine step_build_dg rfl _ rfl y hy16.out rfl ?_) | (at_builtin; refine push_dgO rfl _ _ rfl v4.heap.size u21 (chF ch L k) y hy16.out rfl rfl hbO.out.1 hln2 hsz1 ?_; intro vb' w2 hob2 hbb hgb hnb))
        have haO := ownsRow_onto hoa hgb hnb hbO.out.2.symm
        have f1 : Hid (OwnI w2 v4.heap.size va' (chP ch (k + 1))) := by show OwnI _ _ _ _; rw [hP1.out]; exact haO.1
        have f2 : Hid (OwnD w2 v4.heap.size vb' (chF ch L (k + 1))) := by show OwnD _ _ _ _; rw [hF1.out]; exact hob2
        have f3 := Lib.hid haO.2
        have f4 := Lib.hid (hB1.out.trans hbb)
        go_roundw
        case rel => exact ⟨k + 1, by omega, by go_num, f1, f2, f3, f4⟩
        case measure => simp [intOf]; omega
      · have hbt : (bits BinOp.and IntKind.u64 ((ch : Int) / 2 ^ k) 1 == 1) = false := by rw [bit_u64 ch k hch]; exact decide_eq_false hbit
        have f1 : Hid (OwnI wr v4.heap.size u20 (chP ch (k + 1))) := by show OwnI _ _ _ _; rw [chP, if_neg hbit]; exact ho1.out
        have f2 : Hid (OwnD wr v4.heap.size u21 (chF ch L (k + 1))) := by show OwnD _ _ _ _; rw [chF, if_neg hbit]; exact ho2.out
        clear hbit
        go_wp2_with fail
        go_roundw
        case rel => exact ⟨k + 1, by omega, by go_num, f1, f2, hap, hbw⟩
        case measure => simp [intOf]; omega
    obtain rfl : n0 = k := by omega
    clear hlt
    rw [← hPe.out] at ho1
    rw [← hVe.out] at ho2
    obtain ⟨Ap, np, cp, rfl, hp⟩ := ho1.out.iv hPf.out
    obtain ⟨Av, nv, cv, rfl, hv⟩ := ho2.out.dv hVd.out
    have Rp := Lib.hid hp
    have Rv := Lib.hid hv
    have hp6 : Hid (np ≤ 1000000) := by show _ ≤ _; have h1 := hp.len; have h2 := hPl'.out.2; omega
    clear hp hv ho1 ho2 hap hbw RB hsz
    go_wp2_with fail
    refine (HM.out _ _ _ _ R0.out Rp.out hp6.out T.out).mono ?_
    rintro e v5 ⟨Az, nz, cz, rfl, h0, hb⟩
    have Rz := Lib.hid h0
    clear h0
    replace Bo := Lib.hid (Bo.out.below hb Bo.out.lt)
    replace Br := Lib.hid (Br.out.below hb Br.out.lt)
    replace Bq := Lib.hid (Bq.out.below hb Bq.out.lt)
    replace R0 := Lib.hid (R0.out.keep hb)
    replace RT := Lib.hid (RT.out.keep hb)
    replace Ra := Lib.hid (Ra.out.keep hb)
    replace Rb := Lib.hid (Rb.out.keep hb)
    replace Rp := Lib.hid (Rp.out.keep hb)
    replace Rv := Lib.hid (Rv.out.keep hb)
    replace E := Lib.hid (E.out.trans (hb.mono E.out.size))
    replace T := Lib.hid (T.out.keep hb)
    clear hb
    go_wp2_with fail
    have hLx2 : Hid (∀ W, Below v5.heap.size v5 W → ∀ j v, (x.map bv)[j]? = some v → W.cell? ((ad0.add (at0 * 16)).add j) = some v) := fun W hb => by
      obtain ⟨ad', he, hcc⟩ := hLx.out W (R0.out.keep hb)
      injection he with he
      subst he
      exact hcc
    have hS0 : Below v5.heap.size v5 v5.drew := (Below.refl _ _).drew
    have hne : Nonempty (SOf (fun W => Below v5.heap.size v5 W)) := ⟨⟨_, hS0⟩⟩
    refine wp_region_planH (fun W => Below v5.heap.size v5 W) [] 40 (by kernel_rfl) (by kernel_rfl) (by kernel_rfl) (by kernel_rfl) (by intro c a d v w h; cases d <;> exact h) hS0 ?_
    change wpPlanH _ _ _ _ _ _ _ _ _ v5.drew
    have hS := Lib.hid hS0
    clear hS0
    generalize v5.drew = x0 at hS ⊢
    refine wpAnyH_of_plan (by kernel_rfl) (by intro c a d v w h; cases d <;> exact h) [0, 1, 2, 3, 4, 5, 6, 7, 8, 9, 10, 11, 12, 13, 14, 15, 16, 17, 18] 21 _ _ _ hS.out (by kernel_rfl) ?_
    refine wpPlanH_plain rfl (fun K hK => ?_); go_simp; refine hK _ ?_; clear hK K
    refine wpPlanH_plain rfl (fun K hK => ?_); go_simp; refine hK _ ?_; clear hK K
    refine wpPlanH_plain rfl (fun K hK => ?_); go_simp; refine hK _ ?_; clear hK K
    refine wpPlanH_plain rfl (fun K hK => ?_); go_simp; refine hK _ ?_; clear hK K
    refine wpPlanH_plain rfl (fun K hK => ?_); go_simp; refine hK _ ?_; clear hK K
    refine wpPlanH_plain rfl (fun K hK => ?_); go_simp; refine hK _ ?_; clear hK K
    refine wpPlanH_plain rfl (fun K hK => ?_); go_simp; refine hK _ ?_; clear hK K
    refine wpPlanH_plain rfl (fun K hK => ?_); go_simp; refine hK _ ?_; clear hK K
    refine wpPlanH_plain rfl (fun K hK => ?_); go_simp; refine hK _ ?_; clear hK K
    refine wpPlanH_plain rfl (fun K hK => ?_); go_simp; refine hK _ ?_; clear hK K
    refine wpPlanH_plain rfl (fun K hK => ?_); go_simp; refine hK _ ?_; clear hK K
    refine wpPlanH_plain rfl (fun K hK => ?_); go_simp; refine hK _ ?_; clear hK K
    refine wpPlanH_plain rfl (fun K hK => ?_); go_simp; refine hK _ ?_; clear hK K
    refine wpPlanH_plain rfl (fun K hK => ?_); go_simp; refine hK _ ?_; clear hK K
    refine wpPlanH_runW rfl (by rfl) _ (fun x1 => load_arr_run 31 _ rfl (ad0.add (at0 * 16)) rfl (x.map bv) 16 5 x1.world (hLx2.out _ x1.meets) arr_dig sx.out) ?_
    refine wpPlanH_plain rfl (fun K hK => ?_); go_simp; refine hK _ ?_; clear hK K
    refine wpPlanH_plain rfl (fun K hK => ?_); go_simp; refine hK _ ?_; clear hK K
    refine wpPlanH_plain rfl (fun K hK => ?_); go_simp; refine hK _ ?_; clear hK K
    refine wpPlanH_runW rfl (by rfl) _ (fun x => load_run 31 _ rfl gBr 0 rfl (r.map bv) (.array 16 5) arr_dig rfl sr.out x.world ((Br.out.below (show Below v5.heap.size v5 x.world from x.meets) Br.out.lt).range 0 _ (take_all0 _))) ?_
    refine wpAnyH_each (rs := [19]) (by kernel_rfl) (by decide) (fun K hK q hq => ?_)
    obtain rfl := List.mem_singleton.1 hq
    refine wpOp_listed rfl ?_
    go_wp2_with fail
    refine (CI.out _ _ _ _ (Ra.out.keep hS.out) (T.out.keep hS.out)).mono ?_
    rintro e x6 ⟨rfl, hbx⟩
    go_wp2_with fail
    have hbn := hS.out.trans (hbx.mono hS.out.size)
    refine postH_normal (hK _ _ _ hbn ?_)
    replace hS := Lib.hid hbn
    clear hK K hbx hbn
    refine wpAnyH_of_plan (by kernel_rfl) (by intro c a d v w h; cases d <;> exact h) [20, 21, 22, 23, 24, 25, 26, 27] 12 _ _ _ hS.out (by kernel_rfl) ?_
    refine wpPlanH_plain rfl (fun K hK => ?_); go_simp; refine hK _ ?_; clear hK K
    refine wpPlanH_plain rfl (fun K hK => ?_); go_simp; refine hK _ ?_; clear hK K
    refine wpPlanH_plain rfl (fun K hK => ?_); go_simp; refine hK _ ?_; clear hK K
    refine wpPlanH_plain rfl (fun K hK => ?_); go_simp; refine hK _ ?_; clear hK K
    refine wpPlanH_plain rfl (fun K hK => ?_); go_simp; refine hK _ ?_; clear hK K
    refine wpPlanH_runW rfl (by rfl) _ (fun x => load_run 31 _ rfl gBq 0 rfl (q.map bv) (.array 16 5) arr_dig rfl sq.out x.world ((Bq.out.below (show Below v5.heap.size v5 x.world from x.meets) Bq.out.lt).range 0 _ (take_all0 _))) ?_
    refine wpPlanH_runW rfl (by rfl) _ (fun x => load_run 31 _ rfl gBr 0 rfl (r.map bv) (.array 16 5) arr_dig rfl sr.out x.world ((Br.out.below (show Below v5.heap.size v5 x.world from x.meets) Br.out.lt).range 0 _ (take_all0 _))) ?_
    refine wpPlanH_plain rfl (fun K hK => ?_); go_simp; refine hK _ ?_; clear hK K
    refine wpAnyH_each (rs := [28]) (by kernel_rfl) (by decide) (fun K hK q hq => ?_)
    obtain rfl := List.mem_singleton.1 hq
    refine wpOp_listed rfl ?_
    go_wp2_with fail
    refine (CC.out _ _ _ _ (Rb.out.keep hS.out) (T.out.keep hS.out)).mono ?_
    rintro e x7 ⟨rfl, hbx⟩
    go_wp2_with fail
    have hbn := hS.out.trans (hbx.mono hS.out.size)
    refine postH_normal (hK _ _ _ hbn ?_)
    replace hS := Lib.hid hbn
    clear hK K hbx hbn
    refine wpAnyH_of_plan (by kernel_rfl) (by intro c a d v w h; cases d <;> exact h) [29, 30, 31, 32, 33, 34, 35, 36] 3 _ _ _ hS.out (by kernel_rfl) ?_
    refine wpPlanH_plain rfl (fun K hK => ?_); go_simp; refine hK _ ?_; clear hK K
    refine wpPlanH_plain rfl (fun K hK => ?_); go_simp; refine hK _ ?_; clear hK K
    refine wpPlanH_plain rfl (fun K hK => ?_); go_simp; refine hK _ ?_; clear hK K
    refine wpPlanH_plain rfl (fun K hK => ?_); go_simp; refine hK _ ?_; clear hK K
    refine wpPlanH_plain rfl (fun K hK => ?_); go_simp; refine hK _ ?_; clear hK K
    refine wpPlanH_plain rfl (fun K hK => ?_); go_simp; refine hK _ ?_; clear hK K
    refine wpPlanH_plain rfl (fun K hK => ?_); go_simp; refine hK _ ?_; clear hK K
    refine wpPlanH_runW rfl (by rfl) _ (fun x => load_run 31 _ rfl gBr 0 rfl (r.map bv) (.array 16 5) arr_dig rfl sr.out x.world ((Br.out.below (show Below v5.heap.size v5 x.world from x.meets) Br.out.lt).range 0 _ (take_all0 _))) ?_
    refine wpAnyH_each (rs := [37]) (by kernel_rfl) (by decide) (fun K hK q hq => ?_)
    obtain rfl := List.mem_singleton.1 hq
    refine wpOp_listed rfl ?_
    go_wp2_with fail
    refine (CM.out _ _ _ _ _ _ _ _ _ _ (Rp.out.keep hS.out) (Rv.out.keep hS.out) (Rz.out.keep hS.out) hp6.out (T.out.keep hS.out)).mono ?_
    rintro e x8 ⟨rfl, hbx⟩
    go_wp2_with fail
    have hbn := hS.out.trans (hbx.mono hS.out.size)
    refine postH_normal (hK _ _ _ hbn ?_)
    replace hS := Lib.hid hbn
    clear hK K hbx hbn
    refine wpAnyH_of_plan (by kernel_rfl) (by intro c a d v w h; cases d <;> exact h) [38, 39] 0 _ _ _ hS.out (by kernel_rfl) ?_
    refine wpPlanH_plain rfl (fun K hK => ?_); go_simp; refine hK _ ?_; clear hK K
    refine wpPlanH_plain rfl (fun K hK => ?_); go_simp; refine hK _ ?_; clear hK K
    clear hLx2
    refine wpAnyH_done (by kernel_rfl) ?_ _
    have hb := hS.out
    clear hS hne
    replace Bo := Lib.hid (Bo.out.below hb Bo.out.lt)
    replace Br := Lib.hid (Br.out.below hb Br.out.lt)
    replace Bq := Lib.hid (Bq.out.below hb Bq.out.lt)
    replace R0 := Lib.hid (R0.out.keep hb)
    replace RT := Lib.hid (RT.out.keep hb)
    replace Ra := Lib.hid (Ra.out.keep hb)
    replace Rb := Lib.hid (Rb.out.keep hb)
    replace Rp := Lib.hid (Rp.out.keep hb)
    replace Rv := Lib.hid (Rv.out.keep hb)
    replace Rz := Lib.hid (Rz.out.keep hb)
    replace E := Lib.hid (E.out.trans (hb.mono E.out.size))
    replace T := Lib.hid (T.out.keep hb)
    clear hb
    go_wp2_with fail
    clear e1 e1' e2 e2' hn1 hn2 tat tfc hnL
    have hq0 : Hid ((1 : Nat) = 2 ^ 0 ∧ ∀ t, f0 = 2 ^ t → 0 ≤ t) := ⟨rfl, fun t _ => Nat.zero_le t⟩
    go_loopw [25] (fun v wr2 => ∃ pw s : Nat, v = .int .i64 pw ∧ pw ≤ 100 ∧ 1 ≤ pw ∧ Hid (pw = 2 ^ s ∧ ∀ t, f0 = 2 ^ t → s ≤ t) ∧ x8 = wr2) (fun v _ => f0 - (intOf v).toNat)
    case atStart => exact ⟨1, 0, rfl, by omega, by omega, hq0, rfl⟩
    case round =>
      obtain ⟨pw, s, rfl, hpw, hpw1, hps, rfl⟩ := hrel
      clear hq0
      by_cases hlt : pw < f0
      · have tk : (pw : Int) < (f0 : Int) := by omega
        have hps2 : Hid (2 * pw = 2 ^ (s + 1) ∧ ∀ t, f0 = 2 ^ t → s + 1 ≤ t) := by
          obtain ⟨h1, h2⟩ := hps.out
          refine ⟨by rw [Nat.pow_succ]; omega, fun t ht => ?_⟩
          have := h2 t ht
          rcases Nat.lt_or_ge s t with h | h
          · omega
          · have : s = t := by omega
            subst this
            omega
        go_wp2_with fail
        go_roundw
        case rel => exact ⟨2 * pw, s + 1, by go_num, by omega, by omega, hps2, trivial⟩
        case measure => simp [intOf]; omega
      have tk : ¬ (pw : Int) < (f0 : Int) := by omega
      have hor : Hid (pw ≠ f0 → ∀ t, f0 ≠ 2 ^ t) := fun hne t ht => by
        obtain ⟨h1, h2⟩ := hps.out
        have h3 := h2 t ht
        have h4 : 2 ^ s ≤ 2 ^ t := Nat.pow_le_pow_right (by omega) h3
        omega
      go_upto_region 24 with fail
      go_cut [153] from 134 to 153 (fun v W => v = .bool false ∧ Below x8.heap.size x8 W)
      case first =>
        by_cases hp1 : pw = f0
        · have g1 : ((pw : Int) != (f0 : Int)) = false := by simp; omega
          by_cases hp2 : f0 = n0
          · have g2 : ((f0 : Int) == (n0 : Int)) = true := by simp; omega
            have hp2' := Lib.hid hp2
            clear hp1 hp2 hlt
            have e5 : (bq != bq) = false := by cases bq <;> rfl
            have e6 : (br == br) = true := by cases br <;> rfl
            have hS0 : Below x8.heap.size x8 x8.drew := (Below.refl _ _).drew
            have hne : Nonempty (SOf (fun W => Below x8.heap.size x8 W)) := ⟨⟨_, hS0⟩⟩
            refine wp_region_planH (fun W => Below x8.heap.size x8 W) [] 20 (by kernel_rfl) (by kernel_rfl) (by kernel_rfl) (by kernel_rfl) (by intro c a d v w h; cases d <;> exact h) hS0 ?_
            change wpPlanH _ _ _ _ _ _ _ _ _ x8.drew
            have hS := Lib.hid hS0
            clear hS0
            generalize x8.drew = x0 at hS ⊢
            have hh := Lib.hid (show f0 = n0 ∨ ∀ s, f0 ≠ 2 ^ s from .inl hp2'.out)
            refine wpAnyH_of_plan (by kernel_rfl) (by intro c a d v w h; cases d <;> exact h) [0, 1, 2, 3, 4, 5, 6, 7, 8, 9, 10, 11, 12, 13, 15, 16, 17] 3 _ _ _ hS.out (by kernel_rfl) ?_
            refine wpPlanH_plain rfl (fun K hK => ?_); go_simp; refine hK _ ?_; clear hK K
            refine wpPlanH_plain rfl (fun K hK => ?_); go_simp; refine hK _ ?_; clear hK K
            refine wpPlanH_plain rfl (fun K hK => ?_); go_simp; refine hK _ ?_; clear hK K
            refine wpPlanH_plain rfl (fun K hK => ?_); go_simp; refine hK _ ?_; clear hK K
            refine wpPlanH_plain rfl (fun K hK => ?_); go_simp; refine hK _ ?_; clear hK K
            refine wpPlanH_plain rfl (fun K hK => ?_); go_simp; refine hK _ ?_; clear hK K
            refine wpPlanH_plain rfl (fun K hK => ?_); go_simp; refine hK _ ?_; clear hK K
            refine wpPlanH_plain rfl (fun K hK => ?_); go_simp; refine hK _ ?_; clear hK K
            refine wpPlanH_plain rfl (fun K hK => ?_); go_simp; refine hK _ ?_; clear hK K
            refine wpPlanH_plain rfl (fun K hK => ?_); go_simp; refine hK _ ?_; clear hK K
            refine wpPlanH_plain rfl (fun K hK => ?_); go_simp; refine hK _ ?_; clear hK K
            refine wpPlanH_runW rfl (by rfl) _ (fun x => load_run 31 _ rfl gBo 0 rfl (d.map bv) (.array 16 5) arr_dig rfl sd.out x.world ((Bo.out.below (show Below x8.heap.size x8 x.world from x.meets) Bo.out.lt).range 0 _ (take_all0 _))) ?_
            refine wpPlanH_runW rfl (by rfl) _ (fun x => load_run 31 _ rfl gBr 0 rfl (r.map bv) (.array 16 5) arr_dig rfl sr.out x.world ((Br.out.below (show Below x8.heap.size x8 x.world from x.meets) Br.out.lt).range 0 _ (take_all0 _))) ?_
            refine wpPlanH_plain rfl (fun K hK => ?_); go_simp; refine hK _ ?_; clear hK K
            refine wpPlanH_runW rfl (by rfl) _ (fun x => load_run 31 _ rfl gBo 0 rfl (d.map bv) (.array 16 5) arr_dig rfl sd.out x.world ((Bo.out.below (show Below x8.heap.size x8 x.world from x.meets) Bo.out.lt).range 0 _ (take_all0 _))) ?_
            refine wpPlanH_runW rfl (by rfl) _ (fun x => load_run 31 _ rfl gBq 0 rfl (q.map bv) (.array 16 5) arr_dig rfl sq.out x.world ((Bq.out.below (show Below x8.heap.size x8 x.world from x.meets) Bq.out.lt).range 0 _ (take_all0 _))) ?_
            refine wpPlanH_runW rfl (by rfl) _ (fun x => eql_run 31 _ _ _ rfl 16 arr_dig (by kernel_rfl) d q zd.out zq.out rfl rfl bq hbq'.out x.world) ?_
            refine wpAnyH_each (rs := [14]) (by kernel_rfl) (by decide) (fun K hK q hq => ?_)
            obtain rfl := List.mem_singleton.1 hq
            refine wpOp_listed rfl ?_
            go_wp2_with fail
            refine (CO.out hh.out _ _ _ _ (Rb.out.keep hS.out) (T.out.keep hS.out)).mono ?_
            rintro e x9 ⟨rfl, hbx⟩
            go_wp2_with fail
            have hbn := hS.out.trans (hbx.mono hS.out.size)
            refine postH_normal (hK _ _ _ hbn ?_)
            replace hS := Lib.hid hbn
            clear hK K hbx hbn
            refine wpAnyH_of_plan (by kernel_rfl) (by intro c a d v w h; cases d <;> exact h) [18, 19] 0 _ _ _ hS.out (by kernel_rfl) ?_
            refine wpPlanH_plain rfl (fun K hK => ?_); go_simp; refine hK _ ?_; clear hK K
            refine wpPlanH_plain rfl (fun K hK => ?_); go_simp; refine hK _ ?_; clear hK K
            refine wpAnyH_done (by kernel_rfl) ?_ _
            have hbm := hS.out
            clear hS hne
            go_wp2_with fail
            go_meet
            exact ⟨by first | rfl | (go_simp; done), hbm⟩
          · have g2 : ((f0 : Int) == (n0 : Int)) = false := by simp; omega
            clear hp1 hp2 hlt
            have e5 : (bq != bq) = false := by cases bq <;> rfl
            have e6 : (br == br) = true := by cases br <;> rfl
            go_quiet (fail)
            have hbm : Below x8.heap.size x8 (x8.drewN nq) := below_drewN (Below.refl _ _) nq
            go_wp2_with fail
            go_meet
            exact ⟨by first | rfl | (go_simp; done), hbm⟩
        · have g1 : ((pw : Int) != (f0 : Int)) = true := by simp; omega
          have hp2' := Lib.hid (hor.out hp1)
          clear hp1 hlt
          have e5 : (bq != bq) = false := by cases bq <;> rfl
          have e6 : (br == br) = true := by cases br <;> rfl
          have hS0 : Below x8.heap.size x8 x8.drew := (Below.refl _ _).drew
          have hne : Nonempty (SOf (fun W => Below x8.heap.size x8 W)) := ⟨⟨_, hS0⟩⟩
          refine wp_region_planH (fun W => Below x8.heap.size x8 W) [] 20 (by kernel_rfl) (by kernel_rfl) (by kernel_rfl) (by kernel_rfl) (by intro c a d v w h; cases d <;> exact h) hS0 ?_
          change wpPlanH _ _ _ _ _ _ _ _ _ x8.drew
          have hS := Lib.hid hS0
          clear hS0
          generalize x8.drew = x0 at hS ⊢
          have hh := Lib.hid (show f0 = n0 ∨ ∀ s, f0 ≠ 2 ^ s from .inr hp2'.out)
          refine wpAnyH_of_plan (by kernel_rfl) (by intro c a d v w h; cases d <;> exact h) [0, 1, 2, 3, 4, 5, 6, 7, 8, 9, 10, 11, 12, 13, 15, 16, 17] 3 _ _ _ hS.out (by kernel_rfl) ?_
          refine wpPlanH_plain rfl (fun K hK => ?_); go_simp; refine hK _ ?_; clear hK K
          refine wpPlanH_plain rfl (fun K hK => ?_); go_simp; refine hK _ ?_; clear hK K
          refine wpPlanH_plain rfl (fun K hK => ?_); go_simp; refine hK _ ?_; clear hK K
          refine wpPlanH_plain rfl (fun K hK => ?_); go_simp; refine hK _ ?_; clear hK K
          refine wpPlanH_plain rfl (fun K hK => ?_); go_simp; refine hK _ ?_; clear hK K
          refine wpPlanH_plain rfl (fun K hK => ?_); go_simp; refine hK _ ?_; clear hK K
          refine wpPlanH_plain rfl (fun K hK => ?_); go_simp; refine hK _ ?_; clear hK K
          refine wpPlanH_plain rfl (fun K hK => ?_); go_simp; refine hK _ ?_; clear hK K
          refine wpPlanH_plain rfl (fun K hK => ?_); go_simp; refine hK _ ?_; clear hK K
          refine wpPlanH_plain rfl (fun K hK => ?_); go_simp; refine hK _ ?_; clear hK K
          refine wpPlanH_plain rfl (fun K hK => ?_); go_simp; refine hK _ ?_; clear hK K
          refine wpPlanH_runW rfl (by rfl) _ (fun x => load_run 31 _ rfl gBo 0 rfl (d.map bv) (.array 16 5) arr_dig rfl sd.out x.world ((Bo.out.below (show Below x8.heap.size x8 x.world from x.meets) Bo.out.lt).range 0 _ (take_all0 _))) ?_
          refine wpPlanH_runW rfl (by rfl) _ (fun x => load_run 31 _ rfl gBr 0 rfl (r.map bv) (.array 16 5) arr_dig rfl sr.out x.world ((Br.out.below (show Below x8.heap.size x8 x.world from x.meets) Br.out.lt).range 0 _ (take_all0 _))) ?_
          refine wpPlanH_plain rfl (fun K hK => ?_); go_simp; refine hK _ ?_; clear hK K
          refine wpPlanH_runW rfl (by rfl) _ (fun x => load_run 31 _ rfl gBo 0 rfl (d.map bv) (.array 16 5) arr_dig rfl sd.out x.world ((Bo.out.below (show Below x8.heap.size x8 x.world from x.meets) Bo.out.lt).range 0 _ (take_all0 _))) ?_
          refine wpPlanH_runW rfl (by rfl) _ (fun x => load_run 31 _ rfl gBq 0 rfl (q.map bv) (.array 16 5) arr_dig rfl sq.out x.world ((Bq.out.below (show Below x8.heap.size x8 x.world from x.meets) Bq.out.lt).range 0 _ (take_all0 _))) ?_
          refine wpPlanH_runW rfl (by rfl) _ (fun x => eql_run 31 _ _ _ rfl 16 arr_dig (by kernel_rfl) d q zd.out zq.out rfl rfl bq hbq'.out x.world) ?_
          refine wpAnyH_each (rs := [14]) (by kernel_rfl) (by decide) (fun K hK q hq => ?_)
          obtain rfl := List.mem_singleton.1 hq
          refine wpOp_listed rfl ?_
          go_wp2_with fail
          refine (CO.out hh.out _ _ _ _ (Rb.out.keep hS.out) (T.out.keep hS.out)).mono ?_
          rintro e x9 ⟨rfl, hbx⟩
          go_wp2_with fail
          have hbn := hS.out.trans (hbx.mono hS.out.size)
          refine postH_normal (hK _ _ _ hbn ?_)
          replace hS := Lib.hid hbn
          clear hK K hbx hbn
          refine wpAnyH_of_plan (by kernel_rfl) (by intro c a d v w h; cases d <;> exact h) [18, 19] 0 _ _ _ hS.out (by kernel_rfl) ?_
          refine wpPlanH_plain rfl (fun K hK => ?_); go_simp; refine hK _ ?_; clear hK K
          refine wpPlanH_plain rfl (fun K hK => ?_); go_simp; refine hK _ ?_; clear hK K
          refine wpAnyH_done (by kernel_rfl) ?_ _
          have hbm := hS.out
          clear hS hne
          go_wp2_with fail
          go_meet
          exact ⟨by first | rfl | (go_simp; done), hbm⟩
      case rest =>
        obtain ⟨rfl, hb⟩ := hcut
        clear hlt hor tk hps
        replace Bo := Lib.hid (Bo.out.below hb Bo.out.lt)
        replace Br := Lib.hid (Br.out.below hb Br.out.lt)
        replace Bq := Lib.hid (Bq.out.below hb Bq.out.lt)
        replace R0 := Lib.hid (R0.out.keep hb)
        replace RT := Lib.hid (RT.out.keep hb)
        replace Ra := Lib.hid (Ra.out.keep hb)
        replace Rb := Lib.hid (Rb.out.keep hb)
        replace Rp := Lib.hid (Rp.out.keep hb)
        replace Rv := Lib.hid (Rv.out.keep hb)
        replace Rz := Lib.hid (Rz.out.keep hb)
        replace E := Lib.hid (E.out.trans (hb.mono E.out.size))
        replace T := Lib.hid (T.out.keep hb)
        clear hb
        have e6 : (br == br) = true := by cases br <;> rfl
        go_wp2_with fail
        by_cases hz : f0 = 0
        · subst hz
          clear RT CC CO CN HQ kO kN
          have hS0 : Below wc.heap.size wc wc.drew := (Below.refl _ _).drew
          have hne : Nonempty (SOf (fun W => Below wc.heap.size wc W)) := ⟨⟨_, hS0⟩⟩
          refine wp_region_planH (fun W => Below wc.heap.size wc W) [] 18 (by kernel_rfl) (by kernel_rfl) (by kernel_rfl) (by kernel_rfl) (by intro c a d v w h; cases d <;> exact h) hS0 ?_
          change wpPlanH _ _ _ _ _ _ _ _ _ wc.drew
          have hS := Lib.hid hS0
          clear hS0
          generalize wc.drew = x0 at hS ⊢
          refine wpAnyH_each (rs := [0]) (by kernel_rfl) (by decide) (fun K hK q hq => ?_)
          obtain rfl := List.mem_singleton.1 hq
          refine wpOp_listed rfl ?_
          go_wp2_with fail
          refine (SA.out _ (T.out.keep hS.out)).mono ?_
          rintro e x10 ⟨rfl, hbx⟩
          go_wp2_with fail
          have hbn := hS.out.trans (hbx.mono hS.out.size)
          refine postH_normal (hK _ _ _ hbn ?_)
          replace hS := Lib.hid hbn
          clear hK K hbx hbn
          refine wpAnyH_of_plan (by kernel_rfl) (by intro c a d v w h; cases d <;> exact h) [1, 2, 3, 4, 5, 6, 7, 8, 9, 11, 12, 13] 5 _ _ _ hS.out (by kernel_rfl) (Bx.out ?_)
          refine wpPlanB_plain rfl (fun K hK => ?_); go_simp; refine hK _ ?_; clear hK K
          refine wpPlanB_plain rfl (fun K hK => ?_); go_simp; refine hK _ ?_; clear hK K
          refine wpPlanB_plain rfl (fun K hK => ?_); go_simp; refine hK _ ?_; clear hK K
          refine wpPlanB_plain rfl (fun K hK => ?_); go_simp; refine hK _ ?_; clear hK K
          refine wpPlanB_idleK rfl (by kernel_rfl) (fun K hK => ?_); go_simp; refine hK _ ?_; clear hK K
          refine wpPlanB_idleK rfl (by kernel_rfl) (fun K hK => ?_); go_simp; refine hK _ ?_; clear hK K
          refine wpPlanB_idleK rfl (by kernel_rfl) (fun K hK => ?_); go_simp; refine hK _ ?_; clear hK K
          refine wpPlanB_idleK rfl (by kernel_rfl) (fun K hK => ?_); go_simp; refine hK _ ?_; clear hK K
          refine wpPlanB_idleK rfl (by kernel_rfl) (fun K hK => ?_); go_simp; refine hK _ ?_; clear hK K
          refine wpPlanB_idleK rfl (by kernel_rfl) (fun K hK => ?_); go_simp; refine hK _ ?_; clear hK K
          refine wpPlanB_idleK rfl (by kernel_rfl) (fun K hK => ?_); go_simp; refine hK _ ?_; clear hK K
          refine wpPlanB_idleK rfl (by kernel_rfl) (fun K hK => ?_); go_simp; refine hK _ ?_; clear hK K
          refine Bx.mk ?_
          refine wpAnyH_each (rs := [10]) (by kernel_rfl) (by decide) (fun K hK q hq => ?_)
          obtain rfl := List.mem_singleton.1 hq
          refine wpOp_idleK rfl (by kernel_rfl) (fun J hJ => ?_); go_simp; refine hJ _ ?_; clear hJ J
          refine hK _ _ _ hS.out ?_
          clear hK K
          refine wpAnyH_of_plan (by kernel_rfl) (by intro c a d v w h; cases d <;> exact h) [14, 15, 16, 17] 0 _ _ _ hS.out (by kernel_rfl) (Bx.out ?_)
          refine wpPlanB_idleK rfl (by kernel_rfl) (fun K hK => ?_); go_simp; refine hK _ ?_; clear hK K
          refine wpPlanB_plain rfl (fun K hK => ?_); go_simp; refine hK _ ?_; clear hK K
          refine wpPlanB_plain rfl (fun K hK => ?_); go_simp; refine hK _ ?_; clear hK K
          refine wpPlanB_plain rfl (fun K hK => ?_); go_simp; refine hK _ ?_; clear hK K
          refine Bx.mk ?_
          refine wpAnyH_done (by kernel_rfl) ?_ _
          have hb := hS.out
          clear hS hne
          replace Bo := Lib.hid (Bo.out.below hb Bo.out.lt)
          replace Br := Lib.hid (Br.out.below hb Br.out.lt)
          replace Bq := Lib.hid (Bq.out.below hb Bq.out.lt)
          replace R0 := Lib.hid (R0.out.keep hb)
          replace Ra := Lib.hid (Ra.out.keep hb)
          replace Rb := Lib.hid (Rb.out.keep hb)
          replace Rp := Lib.hid (Rp.out.keep hb)
          replace Rv := Lib.hid (Rv.out.keep hb)
          replace Rz := Lib.hid (Rz.out.keep hb)
          replace E := Lib.hid (E.out.trans (hb.mono E.out.size))
          replace T := Lib.hid (T.out.keep hb)
          clear hb
          go_wp2_with fail
          go_ret
          exact ⟨by first | rfl | (go_simp; done), E.out⟩
        · have z0 : ((f0 : Int) == 0) = false := by simp; omega
          have hz0 := Lib.hid hz
          clear hz
          have hS0 : Below wc.heap.size wc wc.drew := (Below.refl _ _).drew
          have hne : Nonempty (SOf (fun W => Below wc.heap.size wc W)) := ⟨⟨_, hS0⟩⟩
          refine wp_region_planH (fun W => Below wc.heap.size wc W) [] 18 (by kernel_rfl) (by kernel_rfl) (by kernel_rfl) (by kernel_rfl) (by intro c a d v w h; cases d <;> exact h) hS0 ?_
          change wpPlanH _ _ _ _ _ _ _ _ _ wc.drew
          have hS := Lib.hid hS0
          clear hS0
          generalize wc.drew = x0 at hS ⊢
          refine wpAnyH_each (rs := [0]) (by kernel_rfl) (by decide) (fun K hK q hq => ?_)
          obtain rfl := List.mem_singleton.1 hq
          refine wpOp_listed rfl ?_
          go_wp2_with fail
          refine (SA.out _ (T.out.keep hS.out)).mono ?_
          rintro e x10 ⟨rfl, hbx⟩
          go_wp2_with fail
          have hbn := hS.out.trans (hbx.mono hS.out.size)
          refine postH_normal (hK _ _ _ hbn ?_)
          replace hS := Lib.hid hbn
          clear hK K hbx hbn
          refine wpAnyH_of_plan (by kernel_rfl) (by intro c a d v w h; cases d <;> exact h) [1, 2, 3, 4, 5, 6, 7, 8, 9, 11, 12, 13] 5 _ _ _ hS.out (by kernel_rfl) ?_
          refine wpPlanH_plain rfl (fun K hK => ?_); go_simp; refine hK _ ?_; clear hK K
          refine wpPlanH_plain rfl (fun K hK => ?_); go_simp; refine hK _ ?_; clear hK K
          refine wpPlanH_plain rfl (fun K hK => ?_); go_simp; refine hK _ ?_; clear hK K
          refine wpPlanH_plain rfl (fun K hK => ?_); go_simp; refine hK _ ?_; clear hK K
          refine wpPlanH_plain rfl (fun K hK => ?_); go_simp; refine hK _ ?_; clear hK K
          refine wpPlanH_plain rfl (fun K hK => ?_); go_simp; refine hK _ ?_; clear hK K
          refine wpPlanH_runW rfl (by rfl) _ (fun x => load_run 31 _ rfl gBq 0 rfl (q.map bv) (.array 16 5) arr_dig rfl sq.out x.world ((Bq.out.below (show Below wc.heap.size wc x.world from x.meets) Bq.out.lt).range 0 _ (take_all0 _))) ?_
          refine wpPlanH_runW rfl (by rfl) _ (fun x => load_run 31 _ rfl gBo 0 rfl (d.map bv) (.array 16 5) arr_dig rfl sd.out x.world ((Bo.out.below (show Below wc.heap.size wc x.world from x.meets) Bo.out.lt).range 0 _ (take_all0 _))) ?_
          refine wpPlanH_plain rfl (fun K hK => ?_); go_simp; refine hK _ ?_; clear hK K
          refine wpPlanH_runW rfl (by rfl) _ (fun x => load_run 31 _ rfl gBo 0 rfl (d.map bv) (.array 16 5) arr_dig rfl sd.out x.world ((Bo.out.below (show Below wc.heap.size wc x.world from x.meets) Bo.out.lt).range 0 _ (take_all0 _))) ?_
          refine wpPlanH_runW rfl (by rfl) _ (fun x => load_run 31 _ rfl gBr 0 rfl (r.map bv) (.array 16 5) arr_dig rfl sr.out x.world ((Br.out.below (show Below wc.heap.size wc x.world from x.meets) Br.out.lt).range 0 _ (take_all0 _))) ?_
          refine wpPlanH_runW rfl (by rfl) _ (fun x => eql_run 31 _ _ _ rfl 16 arr_dig (by kernel_rfl) d r zd.out zr.out rfl rfl br hbr'.out x.world) ?_
          refine wpAnyH_each (rs := [10]) (by kernel_rfl) (by decide) (fun K hK q hq => ?_)
          obtain rfl := List.mem_singleton.1 hq
          refine wpOp_listed rfl ?_
          go_wp2_with fail
          refine (CN.out hz0.out _ _ _ _ (Rb.out.keep hS.out) (T.out.keep hS.out)).mono ?_
          rintro e x11 ⟨rfl, hbx⟩
          go_wp2_with fail
          have hbn := hS.out.trans (hbx.mono hS.out.size)
          refine postH_normal (hK _ _ _ hbn ?_)
          replace hS := Lib.hid hbn
          clear hK K hbx hbn
          refine wpAnyH_of_plan (by kernel_rfl) (by intro c a d v w h; cases d <;> exact h) [14, 15, 16, 17] 0 _ _ _ hS.out (by kernel_rfl) ?_
          refine wpPlanH_plain rfl (fun K hK => ?_); go_simp; refine hK _ ?_; clear hK K
          refine wpPlanH_plain rfl (fun K hK => ?_); go_simp; refine hK _ ?_; clear hK K
          refine wpPlanH_plain rfl (fun K hK => ?_); go_simp; refine hK _ ?_; clear hK K
          refine wpPlanH_plain rfl (fun K hK => ?_); go_simp; refine hK _ ?_; clear hK K
          refine wpAnyH_done (by kernel_rfl) ?_ _
          have hb := hS.out
          clear hS hne
          replace Bo := Lib.hid (Bo.out.below hb Bo.out.lt)
          replace Br := Lib.hid (Br.out.below hb Br.out.lt)
          replace Bq := Lib.hid (Bq.out.below hb Bq.out.lt)
          replace R0 := Lib.hid (R0.out.keep hb)
          replace RT := Lib.hid (RT.out.keep hb)
          replace Ra := Lib.hid (Ra.out.keep hb)
          replace Rb := Lib.hid (Rb.out.keep hb)
          replace Rp := Lib.hid (Rp.out.keep hb)
          replace Rv := Lib.hid (Rv.out.keep hb)
          replace Rz := Lib.hid (Rz.out.keep hb)
          replace E := Lib.hid (E.out.trans (hb.mono E.out.size))
          replace T := Lib.hid (T.out.keep hb)
          clear hb
          go_wp2_with fail
          go_ret
          exact ⟨by first | rfl | (go_simp; done), E.out⟩
end Go.Proofs.YtlgokfgiemaklaaDoor
