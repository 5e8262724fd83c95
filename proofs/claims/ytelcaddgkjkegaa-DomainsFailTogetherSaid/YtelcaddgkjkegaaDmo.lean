/-
  Stage 10 (domain): slices.Contains over integers; Left.
-/
import Derived.Test.YtelcaddgkjkegaaDmn
import Derived.Test.YtelcaddgkjkegaaRgi
namespace Go.Proofs.Ytelcaddgkjkegaa
set_option linter.unusedVariables false
set_option linter.unusedSimpArgs false
open Go.RowKit Go.Shelf
attribute [local go_sem] Oper.semAt_some

theorem keepI_set {W : World} {B N b : Nat} {bs : List Nat} {v v' : Value} (hv : Boxed W b 3 v) (hB : B ≤ N) (hN : N ≤ b) (hbs : ∀ x ∈ bs, x ≠ b) : KeepI B bs W ((W.setCell ⟨b, 0, none⟩ v').drew) := by
  refine ⟨⟨((Below.refl B W).setCell (p := ⟨b, 0, none⟩) (by show B ≤ b; omega) v').drew, fun g L t h1 h2 hk => ?_⟩, fun x hx => Below.heap_setCell _ _ _ _ (hbs x hx)⟩
  refine (Below.heap_setCell _ _ _ _ ?_).trans hk
  rintro rfl
  have := (show W.heap[g]? = _ from hk).symm.trans hv
  simp at this
  exact h1 this.2
theorem blk_keptD {W W' : World} {row : Option Nat} {g : Nat} {v : Value} {t : TypeId} (h : Boxed W g t v) (hg : W.grownBy W' row) (hrow : ∀ r, row = some r → ∃ o : Obj, W.heap[r]? = some o ∧ o.isCells = false) : Boxed W' g t v :=
  (grownBy_keeps_cells hg hrow h rfl).trans h

set_option maxRecDepth 100000 in
set_option maxHeartbeats 1000000 in
theorem indexZ_any {B : Nat} (l : List Int) (x : Int) (A : Option Addr) (n c : Nat) (w : World) (hn : n = l.length) (h : Rds w B A (l.map iv)) (hl : n ≤ 140737488355328) :
    Calls Try.prog 31 #[.slice A n c, .int .i64 x] w fun e w' => (∃ z : Int, e = .returned (.int .i64 z) ∧ decide (0 ≤ z) = l.contains x) ∧ w' = w := by
  have h' := Lib.hid h
  have hn' := Lib.hid hn
  obtain ⟨q, hq0⟩ : ∃ q, q = l.contains x := ⟨_, rfl⟩
  have hq := Lib.hid hq0
  rw [← hq0]
  clear h hn hq0
  go_enter Try.func31, Try.ntmps31
  go_wp2_with fail
  go_loopw [8] (fun i wr => ∃ k : Nat, k ≤ n ∧ i = .int .i64 k ∧ Hid ((l.take k).any (fun y => x == y) = false) ∧ w = wr) (fun i _ => n - (intOf i).toNat)
  case atStart => exact ⟨0, by omega, rfl, rfl, rfl⟩
  case round =>
    obtain ⟨k, hk, rfl, hno, rfl⟩ := hrel
    by_cases hlt : k < n
    · obtain ⟨y, hy⟩ : ∃ y, l[k]? = some y := ⟨_, List.getElem?_eq_getElem (by rw [← hn'.out]; exact hlt)⟩
      obtain ⟨ad, rfl, hab, hc⟩ := h'.out.look (k := k) (u := iv y) (by rw [List.getElem?_map, hy]; rfl)
      have t : (k : Int) < (n : Int) := by omega
      have t0 : 0 ≤ (k : Int) := by omega
      have hy' := Lib.hid hy
      unfold iv at hc
      clear hy
      by_cases hxy : x = y
      · have te : (x == y) = true := by rw [hxy]; simp
        have hyes : Hid (q = true) := by show _ = _; rw [hq.out, List.contains_iff_mem, hxy]; exact List.mem_of_getElem? hy'.out
        clear hxy
        go_wp2_with fail
        go_ret
        exact ⟨⟨(k : Int), rfl, (decide_eq_true (by omega)).trans hyes.out.symm⟩, rfl⟩
      · have te : (x == y) = false := by simp only [beq_eq_false_iff_ne, ne_eq]; exact hxy
        have hnext := Lib.hid (any_take_next hno.out hy'.out te)
        clear hxy
        go_wp2_with fail
        go_roundw
        case rel => exact ⟨k + 1, by omega, by go_num, hnext, trivial⟩
        case measure => simp [intOf]; omega
    · have t : ¬ (k : Int) < (n : Int) := by omega
      have hfin : Hid (q = false) := by
        have := hno.out
        rw [List.take_of_length_le (by have := hn'.out; omega)] at this
        show _ = _
        rw [hq.out, Bool.eq_false_iff]
        intro hc
        rw [List.contains_iff_mem] at hc
        rw [List.any_eq_false] at this
        exact this x hc (by simp)
      go_wp2_with fail
      go_ret
      exact ⟨⟨-1, rfl, by rw [hfin.out]; exact decide_eq_false (by decide)⟩, rfl⟩
set_option maxRecDepth 100000 in
theorem containsZ_any {B : Nat} (l : List Int) (x : Int) (A : Option Addr) (n c : Nat) (w : World) (hn : n = l.length) (h : Rds w B A (l.map iv)) (hl : n ≤ 140737488355328) :
    Calls Try.prog 24 #[.slice A n c, .int .i64 x] w fun e w' => e = .returned (.bool (l.contains x)) ∧ w' = w := by
  have H := Lib.hid (indexZ_any l x A n c w hn h hl)
  clear h hn
  go_enter Try.func24, Try.ntmps24
  go_wp2_with fail
  refine H.out.mono ?_
  rintro e w' ⟨⟨z, rfl, hz⟩, rfl⟩
  have hz' := Lib.hid hz
  clear hz
  go_wp2_with fail
  go_ret
  exact ⟨by rw [← hz'.out]; rfl, rfl⟩

theorem or_i64 (a b : Nat) (ha : a < 4294967296) (hb : b < 4294967296) : bits BinOp.or IntKind.i64 (a : Int) (b : Int) = ((a ||| b : Nat) : Int) := by
  have hx : a ||| b < 2 ^ 32 := Nat.or_lt_two_pow (by omega) (by omega)
  have h1 : (BitVec.ofInt 64 (a : Int)).toNat = a := by
    rw [BitVec.ofInt_natCast, BitVec.toNat_ofNat]; exact Nat.mod_eq_of_lt (by omega)
  have h2 : (BitVec.ofInt 64 (b : Int)).toNat = b := by
    rw [BitVec.ofInt_natCast, BitVec.toNat_ofNat]; exact Nat.mod_eq_of_lt (by omega)
  show IntKind.i64.wrap ((BitVec.ofInt 64 (a : Int) ||| BitVec.ofInt 64 (b : Int)).toNat : Int) = _
  rw [BitVec.toNat_or, h1, h2, IntKind.wrap_i64]
  omega
theorem two_lt {i : Nat} (hi : i < 24) : 2 ^ i < 16777216 := Nat.lt_of_lt_of_le (Nat.pow_lt_pow_right (by omega) hi) (by decide)
theorem or_two (u i : Nat) (hu : u < 16777216) (hi : i < 24) : bits BinOp.or IntKind.i64 (u : Int) (wrap64 ((2 : Int) ^ i)) = ((u ||| 2 ^ i : Nat) : Int) ∧ u ||| 2 ^ i < 16777216 := by
  have h := two_lt hi
  have e : (2 : Int) ^ i = ((2 ^ i : Nat) : Int) := by rw [Int.natCast_pow]; rfl
  rw [e]
  clear e
  generalize 2 ^ i = q at *
  have f : wrap64 (q : Int) = (q : Int) := by unfold wrap64; omega
  rw [f]
  exact ⟨or_i64 _ _ (by omega) (by omega), Nat.or_lt_two_pow (n := 24) hu h⟩

/-- The set, as it grows. -/
def accL {d : Dm} {lv : Int} (F : List Int) (pre : List (PN d lv)) : Nat := pre.foldl (fun s p => if F.contains (p.1.2 : Int) = true then s else s ||| 2 ^ p.1.1) 0
theorem accL_snoc {d : Dm} {lv : Int} (F : List Int) (pre : List (PN d lv)) (p : PN d lv) : accL F (pre ++ [p]) = if F.contains (p.1.2 : Int) = true then accL F pre else accL F pre ||| 2 ^ p.1.1 := by simp [accL]
theorem accL_lt {d : Dm} {lv : Int} (F : List Int) : ∀ pre : List (PN d lv), accL F pre < 16777216 := by
  intro pre
  rcases List.eq_nil_or_concat pre with rfl | ⟨q, p, rfl⟩
  · show (0 : Nat) < 16777216; omega
  · rw [List.concat_eq_append, accL_snoc]
    have := accL_lt F q
    split
    · exact this
    · exact Nat.or_lt_two_pow (n := 24) this (two_lt p.2.1)
termination_by pre => pre.length
decreasing_by subst_vars; simp
theorem or_new {s k : Nat} (h : s < 2 ^ k) : s ||| 2 ^ k = s + 2 ^ k := by
  rw [Nat.or_comm]
  have := Nat.two_pow_add_eq_or_of_lt h 1
  simp at this
  omega
theorem accL_pcs (d : Dm) (lv : Int) (F L : List Int) : ∀ k, k ≤ 24 → accL F (pcs d lv L k) = setB (fun j => d.stays lv F (L.getD j 0)) k
  | 0, _ => rfl
  | k + 1, hk => by
    have ih := accL_pcs d lv F L k (by omega)
    rw [setB]
    by_cases h : 0 ≤ d.of lv (L.getD k 0)
    · rw [pcs_yes (by omega) h, accL_snoc]
      have e : (((d.of lv (L.getD k 0)).toNat : Nat) : Int) = d.of lv (L.getD k 0) := by omega
      dsimp only
      rw [e, ih]
      unfold Dm.stays
      cases hc : F.contains (d.of lv (L.getD k 0)) with
      | true => simp
      | false =>
        simp only [h, decide_true, Bool.not_false, Bool.and_self, if_true, Bool.false_eq_true, if_false]
        exact or_new (setB_lt _ _)
    · have hs : d.stays lv F (L.getD k 0) = false := by unfold Dm.stays; rw [decide_eq_false h]; rfl
      rw [pcs_no h, ih]
      show _ = setB (fun j => d.stays lv F (L.getD j 0)) k + (if d.stays lv F (L.getD k 0) = true then 2 ^ k else 0)
      rw [hs]
      simp
theorem accL_all (d : Dm) (lv : Int) (F L : List Int) : accL F (pcsA d lv L) = d.left lv L F := by
  unfold pcsA Dm.left
  refine accL_pcs d lv F _ _ ?_
  unfold Dm.cap
  split
  · assumption
  · simp

set_option maxRecDepth 100000 in
set_option maxHeartbeats 4000000 in
theorem left_any {B : Nat} (h : Hd) (d : Dm) (lv : Int) (L F : List Int) (A A' : Option Addr) (np c nf cf : Nat) (w : World) (hm : DomM w B h d) (hL : Rds w B A (L.map iv)) (hnp : np = L.length) (hnl : np ≤ 140737488355328) (hF : Rds w B A' (F.map iv)) (hnf : nf = F.length) (hnlf : nf ≤ 140737488355328) :
    Calls Try.prog 6 #[h.val, .int .i64 lv, .slice A np c, .slice A' nf cf] w fun e w' => e = .returned (.int .i64 (d.left lv L F : Nat)) ∧ Below w.heap.size w w' := by
  refine (callsIn_wide (n := 5)).1 ?_
  have hro : Fence.wide.round = none := rfl
  obtain ⟨W2, hW2⟩ : ∃ W2, W2 = ((w.alloc (.cells h.cells.toArray 25)).alloc (.cells #[.slice A' nf cf] 22)).alloc (.cells #[.int .i64 0] 3) := ⟨_, rfl⟩
  obtain ⟨W3, hW3⟩ : ∃ W3, W3 = ((W2.alloc (.cells h.cells.toArray 25)).alloc (.cells #[.int .i64 lv] 3)).alloc (.cells #[.slice A np c] 22) := ⟨_, rfl⟩
  have s2 : W2.heap.size = w.heap.size + 1 + 1 + 1 := by rw [hW2]; simp
  have s3 : W3.heap.size = w.heap.size + 6 := by rw [hW3]; simp [s2]
  have hB2 : Below w.heap.size w W2 := by rw [hW2]; exact (((Below.refl _ _).alloc (Nat.le_refl _) _).alloc (by simp) _).alloc (by simp; omega) _
  have hB3 : Below w.heap.size w W3 := by rw [hW3]; exact ((hB2.alloc hB2.size _).alloc (by simp; omega) _).alloc (by simp; omega) _
  have bX : Boxed W3 (w.heap.size + 1 + 1) 3 (.int .i64 0) := by
    rw [hW3]
    refine Boxed.alloc (Boxed.alloc (Boxed.alloc ?_ _) _) _
    rw [hW2]
    have := Boxed.new ((w.alloc (.cells h.cells.toArray 25)).alloc (.cells #[.slice A' nf cf] 22)) 3 (.int .i64 0)
    rwa [World.size_alloc, World.size_alloc] at this
  have bF : Boxed W3 (w.heap.size + 1) 22 (.slice A' nf cf) := by
    rw [hW3]
    refine Boxed.alloc (Boxed.alloc (Boxed.alloc ?_ _) _) _
    rw [hW2]
    have := Boxed.new (w.alloc (.cells h.cells.toArray 25)) 22 (.slice A' nf cf)
    rw [World.size_alloc] at this
    exact this.alloc _
  have kd3 : Blk W3 (w.heap.size + 1 + 1 + 1) h.cells 25 := by rw [hW3]; exact ((Blk.new W2 _ _).alloc _ |>.alloc _).at (by rw [s2])
  have kl3 : Blk W3 (w.heap.size + 1 + 1 + 1 + 1) [.int .i64 lv] 3 := by rw [hW3]; exact ((Blk.new _ [_] _).alloc _).at (by rw [World.size_alloc, s2])
  have kp3 : Blk W3 (w.heap.size + 1 + 1 + 1 + 1 + 1) [.slice A np c] 22 := by rw [hW3]; exact (Blk.new _ [_] _).at (by rw [World.size_alloc, World.size_alloc, s2])
  have hm3 := hm.below hB3
  have hS := pieces_stops 4 (w.heap.size + 1 + 1 + 1 + 1 + 1) (w.heap.size + 1 + 1 + 1) (w.heap.size + 1 + 1 + 1 + 1) h d lv L A np c W3 hm3 (hL.below (hB3.mono hm.le)) hnp hnl kd3 kl3 kp3
  have hle := hm.le
  have HMk := pieces_v h lv A np c W2
  rw [← hW3, s2] at HMk
  have HM := Lib.hid HMk
  have hW2' := Lib.hid hW2
  have hFl := Lib.hid (fun W (hW : Below w.heap.size W3 W) x => containsZ_any F x A' nf cf W hnf ((hF.below (hB3.mono hle)).below (hW.mono hle)) hnlf)
  obtain ⟨r, hr0⟩ : ∃ r, r = d.left lv L F := ⟨_, rfl⟩
  have hr : Hid (accL F (pcsA d lv L) = r) := by show _ = _; rw [hr0]; exact accL_all d lv F L
  rw [← hr0]
  unfold Hd.cells at hW2'
  unfold Hd.val at HM ⊢
  clear hW2 hW3 hm HMk kd3 kl3 kp3 hm3 hL hF hnp hnf hr0
  refine callsIn_of_wp_marks Try.func6 rfl trivial ?_ hro
  simp only [Try.ntmps6, List.size_toArray, List.length_cons, List.length_nil, Nat.reduceAdd, Nat.reduceSub, Array.replicate_succ, Array.replicate_zero, List.push_toArray, List.append_toArray, List.nil_append, List.cons_append]
  gi_wp2_with fail
  generalize hg : ((w.alloc _).alloc _).alloc _ = Wg
  have hgW : W2 = Wg := by rw [← hg, hW2'.out]
  clear hg hW2'
  subst hgW
  refine ⟨trivial, (callsIn_wide.2 HM.out).mono ?_⟩
  rintro e w' ⟨rfl, rfl⟩
  gi_wp2_with fail
  refine wpIn_rangeFunc_ownG hro (by omega) (gf := 30) (lb := #[.pointer (some ⟨w.heap.size + 1 + 1 + 1 + 1 + 1, 0, none⟩), .pointer (some ⟨w.heap.size + 1 + 1 + 1, 0, none⟩), .pointer (some ⟨w.heap.size + 1 + 1 + 1 + 1, 0, none⟩)]) rfl trivial (enters_of Try.func30 (by kernel_rfl) rfl)
    hS keepI_t (keepI_b (by omega) (by simp)) (Below.refl _ _) (fun _ => rfl)
    (fun (pre : List (PN d lv)) W => (Boxed W (w.heap.size + 1 + 1) 3 (.int .i64 (accL F pre : Nat)) ∧ Boxed W (w.heap.size + 1) 22 (.slice A' nf cf)) ∧ Below w.heap.size w' W)
    (fun _ _ _ => False)
    (OwnFrom.and (Own.from (fun s X Y row hs hg hr => ⟨blk_keptD hs.1 hg hr, blk_keptD hs.2 hg hr⟩) _) (ownFrom_below (by omega) (by omega)))
    (fun _ _ _ _ _ hs _ _ => hs)
    ⟨⟨bX, bF⟩, Below.refl _ _⟩
    (fun x => { tmps := #[.agg #[.slice h.a1 h.n1 h.c1, .slice h.a2 h.n2 h.c2, .slice h.a3 h.n3 h.c3, .int .i64 h.o], .int .i64 lv, .slice A np c, .slice A' nf cf, .pointer (some ⟨w.heap.size, 0, none⟩), undef, undef, .pointer (some ⟨w.heap.size + 1, 0, none⟩), .int .i64 0, .pointer (some ⟨w.heap.size + 1 + 1, 0, none⟩), .int .i64 (x.1.1 : Int), .int .i64 (x.1.2 : Int), .agg #[.slice h.a1 h.n1 h.c1, .slice h.a2 h.n2 h.c2, .slice h.a3 h.n3 h.c3, .int .i64 h.o], .int .i64 lv, .slice A np c, .func (.func 30) #[] #[.pointer (some ⟨w.heap.size + 1 + 1 + 1 + 1 + 1, 0, none⟩), .pointer (some ⟨w.heap.size + 1 + 1 + 1, 0, none⟩), .pointer (some ⟨w.heap.size + 1 + 1 + 1 + 1, 0, none⟩)], .int .i64 (x.1.1 : Int), .int .i64 (x.1.2 : Int), undef, undef, undef, undef, undef, undef, undef, undef, undef], defers := [] }) ?assign ?body ?done ?stop
  case assign =>
    intro l x W K hK
    gi_wp2
    exact hK
  case body =>
    rintro l pre x W ⟨⟨hv, hf⟩, hB⟩ hlt
    have hc := hv.cell
    have hcf := hf.cell
    have HC := Lib.hid (hFl.out W hB (x.1.2 : Int))
    obtain ⟨q, hq0⟩ : ∃ q, q = F.contains (x.1.2 : Int) := ⟨_, rfl⟩
    rw [← hq0] at HC
    have hq := Lib.hid hq0
    have hlt2 := accL_lt F pre
    have hsn := Lib.hid (accL_snoc F pre x)
    clear hq0
    cases q with
    | true =>
      have hsx : Hid (accL F (pre ++ [x]) = accL F pre) := by show _ = _; rw [hsn.out, if_pos hq.out.symm]
      gi_wp2_with (refine ⟨trivial, ?_⟩; gi_at_call 24; refine (CallsIn.inRound l (callsIn_wide.2 HC.out)).mono ?_; rintro e w2 ⟨rfl, rfl⟩)
      exact ⟨KeepsFrom.refl _ _, KeepI.refl _ _ _, ⟨by rw [hsx.out]; exact hv, hf⟩, hB⟩
    | false =>
      have hsx : Hid (accL F (pre ++ [x]) = accL F pre ||| 2 ^ x.1.1) := by show _ = _; rw [hsn.out, if_neg (by rw [← hq.out]; simp)]
      obtain ⟨hor, hos⟩ := or_two (accL F pre) x.1.1 hlt2 x.2.1
      have hi24 := x.2.1
      generalize accL F pre = u at *
      generalize x.1.1 = i at *
      obtain ⟨s', hs'⟩ : ∃ s', s' = u ||| 2 ^ i := ⟨_, rfl⟩
      rw [← hs'] at hor hos hsx
      have u1 : ¬ (i : Int) < 0 := by omega
      have u0 : 0 ≤ (i : Int) := by omega
      have hm : min i 64 = i := by omega
      clear hs'
      gi_wp2_with (refine ⟨trivial, ?_⟩; gi_at_call 24; refine (CallsIn.inRound l (callsIn_wide.2 HC.out)).mono ?_; rintro e w2 ⟨rfl, rfl⟩)
      have q1 : ∀ q : ExtOf w2.drew, q.world.cell? ⟨w.heap.size + 1 + 1, 0, none⟩ = some (.int .i64 (u : Int)) := fun q => (Below.cell (q.below (Nat.le_refl _)) (p := ⟨w.heap.size + 1 + 1, 0, none⟩) hv.lt).trans hv.cell
      refine wp_region_planI (fun _ => trivial) [4] [(true, 0), (true, 1), (true, 2), (true, 3), (false, 4)] (by decide) (by kernel_rfl) (by kernel_rfl) (by kernel_rfl) (by decide) (by intro c a d v w h; cases d <;> exact h) ?_
      change wpPlanI _ _ _ _ _ _ _ _ w2.drew
      iterate 4 (refine wpPlanI_plain rfl (fun K hK => ?_); go_simp; refine hK _ ?_; clear hK K)
      refine wpPlanI_call rfl (fun K hK => ?_)
      have hcd : w2.drew.cell? ⟨w.heap.size + 1 + 1, 0, none⟩ = some (.int .i64 (u : Int)) := hv.cell
      have hfd : w2.drew.frozen? ⟨w.heap.size + 1 + 1, 0, none⟩ = false := hv.frozen
      gi_wp2_with fail
      rw [hor]
      refine planPostL_normal ⟨.inl (by simp), hK _ _ ?_⟩
      clear hK K
      refine wpPlanI_nil ?_
      have hbs : Below w.heap.size w2 ((w2.setCell ⟨w.heap.size + 1 + 1, 0, none⟩ (.int .i64 (s' : Int))).drew) := ((Below.refl w.heap.size w2).setCell (p := ⟨w.heap.size + 1 + 1, 0, none⟩) (by show w.heap.size ≤ w.heap.size + 1 + 1; omega) _).drew
      exact ⟨((KeepsOthers.setCell w2 _ _).trans (KeepsOthers.drew _)).from _, keepI_set hv hle (by show w.heap.size ≤ w.heap.size + 1 + 1; omega) (by simp), ⟨by rw [hsx.out]; exact hv.set _, (Below.heap_setCell _ _ _ _ (by show w.heap.size + 1 ≠ w.heap.size + 1 + 1; omega)).trans hf⟩, hB.trans hbs⟩
  case done =>
    rintro D ys W hD rfl ⟨⟨hv, hf⟩, hB⟩ hK
    rw [hr.out] at hv
    have hc := hv.cell
    gi_wp2
    refine ⟨by simp, .inl ⟨_, _, rfl, run_takeDeferred hK, ?_⟩⟩
    exact ⟨_, results_tmp rfl _ _ _, rfl, (hB3.trans hB).trans (belowK_b (w := w) (Nat.le_refl _) W D _ _ (by omega) hK rfl rfl)⟩
  case stop =>
    rintro D c pre W _ _ h _
    exact h.elim
end Go.Proofs.Ytelcaddgkjkegaa
