/-
  Stage 14 (clock): the walk of ClockHoldsTheTruth. (Written by tools/genuzc.py.)
-/
import Derived.Test.YtpdalebnodgcdaaUzb
import Derived.Test.YtpdalebnodgcdaaOpl
namespace Go.Proofs.Ytpdalebnodgcdaa
set_option linter.unusedVariables false
set_option linter.unusedSimpArgs false
open Go.RowKit
theorem size_stp : (Try.prog.info? 78).map (·.size) = some 5 := by kernel_rfl
theorem size_run14 : (Try.prog.info? 73).map (·.size) = some 3 := by kernel_rfl

set_option maxRecDepth 100000 in
set_option maxHeartbeats 8000000 in
theorem truth_walk (a b : Int) (A : Option Addr) (n c : Nat) (w : World) (a0 : 0 ≤ a) (a1 : a ≤ 4294967295) (b0 : 0 ≤ b) (b1 : b ≤ 4294967295) (m : StpM w w.heap.size A n) :
    Calls Try.prog 7 #[.agg #[.int .u32 a, .int .u32 b, .slice A n c]] w fun e w' => e = .returned (.bool true) ∧ Below w.heap.size w w' := by
  obtain ⟨w0, hw0⟩ : ∃ w0, w0 = w.alloc (.cells #[.int .u32 a, .int .u32 b, .slice A n c] 73) := ⟨_, rfl⟩
  have E : Hid (Below w.heap.size w w0) := by show Below _ _ _; rw [hw0]; exact (Below.refl _ _).alloc (Nat.le_refl _) _
  have X1 : Hid (Blk w0 w.heap.size [.int .u32 a, .int .u32 b, .slice A n c] 73) := by show Blk _ _ _ _; rw [hw0]; exact Blk.new w [_, _, _] _
  have mH := Lib.hid m
  have hw0' := Lib.hid hw0
  clear hw0 m
  have hunr : Hid (Try.prog.underlying 73 = _) := Try.underlying73
  have hszr := Lib.hid size_run14
  have hunm : Hid (Try.prog.underlying 75 = _) := Try.underlying75
  have hszm := Lib.hid size_mom
  have huns : Hid (Try.prog.underlying 78 = _) := Try.underlying78
  have hszs := Lib.hid size_stp
  have hunc : Hid (Try.prog.underlying 24 = _) := Try.underlying24
  have hszc := Lib.hid size_clk
  have C1 := Lib.hid (fun W => begun_any a b A n c W a0 a1 b0 b1)
  obtain ⟨V0, hV0⟩ : ∃ x, b % 100000 * 1000000 / 7 = x := ⟨_, rfl⟩
  obtain ⟨p, hp⟩ : ∃ x, a % 100001 = x := ⟨_, rfl⟩
  rw [hV0, hp] at C1
  have hV0r : Hid (V0 ≤ 14285714286) := by show _ ≤ _; omega
  have R0 : Hid (RunK p 0 V0 []) := RunK.begin (by omega) (by omega) (by omega) (by omega)
  clear hV0 hp
  have q2 := X1.out.cell (j := 2) rfl
  by_cases h30 : 30 < n
  · have t30 : (30 : Int) < (n : Int) := by omega
    go_enter Try.func7, Try.ntmps7
    go_upto_region 1 with fail
    generalize hgg : w.alloc _ = Wg
    have hgW : w0 = Wg := by rw [← hgg, hw0'.out]
    clear hgg hw0'
    subst hgW
    go_wp2_with fail
    refine (sanity_any14 _).mono ?_
    rintro e v1 ⟨rfl, hb⟩
    replace E : Hid (Below w.heap.size w v1) := E.out.trans (hb.mono E.out.size)
    replace X1 := Lib.hid (X1.out.below hb X1.out.lt)
    clear hb 
    go_wp2_with fail
    go_ret
    exact ⟨rfl, E.out⟩
  · have t30 : ¬ (30 : Int) < (n : Int) := by omega
    go_enter Try.func7, Try.ntmps7
    go_upto_region 1 with fail
    generalize hgg : w.alloc _ = Wg
    have hgW : w0 = Wg := by rw [← hgg, hw0'.out]
    clear hgg hw0'
    subst hgW
    go_wp2_with (refine wpList_blk_load rfl 73 _ rfl 0 rfl X1.out [_, _, _] rfl _ hunr.out rfl hszr.out ?_)
    clear q2
    refine (C1.out _).mono ?_
    rintro e v1 ⟨rfl, hb⟩
    replace E : Hid (Below w.heap.size w v1) := E.out.trans (hb.mono E.out.size)
    replace X1 := Lib.hid (X1.out.below hb X1.out.lt)
    clear hb C1
    obtain ⟨g3, hg3⟩ : ∃ x, x = v1.heap.size := ⟨_, rfl⟩
    have hg3r : Hid (w.heap.size < g3) := by show _ < _; have := X1.out.lt; omega
    have X3 : Hid (Blk (v1.alloc (.cells #[.int .i64 0, .int .i64 V0, .int .i64 p, .slice none 0 0] 75)) v1.heap.size [.int .i64 0, .int .i64 V0, .int .i64 p, .slice none 0 0] 75) := Blk.new v1 [_, _, _, _] _
    have hb : Below v1.heap.size v1 (v1.alloc (.cells #[.int .i64 0, .int .i64 V0, .int .i64 p, .slice none 0 0] 75)) := (Below.refl _ _).alloc (Nat.le_refl _) _
    replace E : Hid (Below w.heap.size w (v1.alloc (.cells #[.int .i64 0, .int .i64 V0, .int .i64 p, .slice none 0 0] 75))) := E.out.trans (hb.mono E.out.size)
    replace X1 := Lib.hid (X1.out.below hb X1.out.lt)
    clear hb
    have q2 := X1.out.cell (j := 2) rfl
    go_upto_region 4 with fail
    rw [← hg3] at X3 ⊢
    clear hg3
    generalize hvv : (v1.alloc (.cells #[.int .i64 0, .int .i64 V0, .int .i64 p, .slice none 0 0] 75)) = v2 at *
    clear hvv
    go_wp2_with fail
    clear q2
    go_loopg [20] n (fun g s20 wx => ∃ (i : Nat) (T V : Int) (k : Clk), i + g = n ∧ s20 = .int .i64 i ∧ Hid (T ≤ 499 * i) ∧ Hid (V ≤ 14285714286 + 548900000 * i) ∧ Hid (RunK k.rate T V k.l) ∧ Hid (ClkM wx wx.heap.size k) ∧ Hid (∀ ad, k.A = some ad → ad.block ≠ g3) ∧ Hid (Below w.heap.size w wx) ∧ Hid (Blk wx g3 [.int .i64 T, .int .i64 V, .int .i64 k.rate, .slice k.A k.n k.c] 75))
    case atStart => exact ⟨0, 0, V0, ⟨p, none, 0, 0, []⟩, by omega, rfl, by show _ ≤ _; omega, by show _ ≤ _; have := hV0r.out; omega, R0, by have := zero_clk v2; exact ⟨this.r, this.len, this.cap, this.small, this.le, by have := R0.out.rate; unfold Wm.Fits; dsimp only; omega, by simp⟩, (fun ad h => by cases h), E, X3⟩
    case round =>
      obtain ⟨i, T, V, k, hig, rfl, hT, hV, hR, hM, hK, E, X3⟩ := hrel
      clear R0 hV0r
      cases gk with
      | zero =>
        have hkz : ¬ ((i : Int) < (n : Int)) := by omega
        go_wp2_with fail
        refine (sanity_any14 _).mono ?_
        rintro e v21 ⟨rfl, hb⟩
        replace E : Hid (Below w.heap.size w v21) := E.out.trans (hb.mono E.out.size)
        clear hb 
        go_wp2_with fail
        go_ret
        exact ⟨rfl, E.out⟩
      | succ gk =>
        have hkz : (i : Int) < (n : Int) := by omega
        have hi0 : 0 ≤ (i : Int) := by omega
        have hin : i < n := by omega
        have hib : Hid (i ≤ 30) := by show _ ≤ _; omega
        obtain ⟨ad, hA, hadb, f, d, kd, ea, la, ⟨f0, f1⟩, ⟨d0, d1⟩, ⟨kd0, kd1⟩, ⟨ea0, ea1⟩, ⟨la0, la1⟩, hc⟩ := mH.out i hin
        subst hA
        have hcl : Hid (∀ j u, ([.int .u16 f, .int .i32 d, .int .u8 kd, .int .u8 ea, .int .u8 la] : List Value)[j]? = some u → wr.cell? ((ad.add (i * 5)).add j) = some u) := fun j u hu => (E.out.cell (by rw [add_block, add_block]; exact hadb)).trans (hc j u hu)
        have CG := Lib.hid (fun W {B : Nat} (h : ClkM W B k) => goOn_any T V k f d kd ea la W h hR.out f0 f1 d0 d1 kd0 kd1 ea0 ea1 la0 la1 (by have := hT.out; have := hib.out; omega) (by have := hV.out; have := hib.out; omega))
        clear hc hadb f0 f1 d0 d1 kd0 kd1 ea0 ea1 la0 la1 hR
        have hw5 : Hid (wr.heap.size ≤ wr.heap.size) := Nat.le_refl _
        have X5 : Hid (Blk (wr.alloc (.cells #[.int .u16 f, .int .i32 d, .int .u8 kd, .int .u8 ea, .int .u8 la] 78)) wr.heap.size [.int .u16 f, .int .i32 d, .int .u8 kd, .int .u8 ea, .int .u8 la] 78) := Blk.new wr [_, _, _, _, _] _
        have hb : Below wr.heap.size wr (wr.alloc (.cells #[.int .u16 f, .int .i32 d, .int .u8 kd, .int .u8 ea, .int .u8 la] 78)) := (Below.refl _ _).alloc (Nat.le_refl _) _
        replace E : Hid (Below w.heap.size w (wr.alloc (.cells #[.int .u16 f, .int .i32 d, .int .u8 kd, .int .u8 ea, .int .u8 la] 78))) := E.out.trans (hb.mono E.out.size)
        replace X3 := Lib.hid (X3.out.below hb X3.out.lt)
        replace hM := Lib.hid (hM.out.below hb)
        clear hb
        go_upto_region 7 with (refine wpList_load_at rfl 78 _ rfl (ad.add (i * 5)) rfl [.int .u16 f, .int .i32 d, .int .u8 kd, .int .u8 ea, .int .u8 la] _ huns.out rfl hszs.out hcl.out ?_)
        clear hcl hi0 hkz
        generalize hvv : (wr.alloc (.cells #[.int .u16 f, .int .i32 d, .int .u8 kd, .int .u8 ea, .int .u8 la] 78)) = v22 at *
        clear hvv
        have hg3w : Hid (g3 < v22.heap.size) := X3.out.lt
        go_wp2_with (first | (refine wpList_blk_load rfl 75 _ rfl 0 rfl X3.out [_, _, _, _] rfl _ hunm.out rfl hszm.out ?_) | (refine wpList_blk_load rfl 78 _ rfl 0 rfl X5.out [_, _, _, _, _] rfl _ huns.out rfl hszs.out ?_))
        refine (CG.out _ hM.out).mono ?_
        rintro e v23 ⟨T2, V2, k2, rfl, hM2, hR2, hT2, hV2, hK2, hb⟩
        replace E : Hid (Below w.heap.size w v23) := E.out.trans (hb.mono E.out.size)
        replace X3 := Lib.hid (X3.out.below hb X3.out.lt)
        have M2 := Lib.hid hM2
        have R2 := Lib.hid hR2
        have T2b : Hid (T2 ≤ 499 * ((i : Int) + 1)) := by show _ ≤ _; have := hT.out; omega
        have V2b : Hid (V2 ≤ 14285714286 + 548900000 * ((i : Int) + 1)) := by show _ ≤ _; have := hV.out; omega
        have K2 : Hid (∀ ad, k2.A = some ad → ad.block ≠ g3) := fun ad h => (hK2 ad h).elim (fun h => hK.out ad h) (fun h => by have := hg3w.out; omega)
        clear hb CG X5 hM hM2 hR2 hT2 hV2 hK2
        clear hT hV hK hg3w
        have X6 : Hid (Blk (v23.alloc (.cells #[.int .i64 T2, .int .i64 V2, .int .i64 k2.rate, .slice k2.A k2.n k2.c] 75)) v23.heap.size [.int .i64 T2, .int .i64 V2, .int .i64 k2.rate, .slice k2.A k2.n k2.c] 75) := Blk.new v23 [_, _, _, _] _
        have hb : Below v23.heap.size v23 (v23.alloc (.cells #[.int .i64 T2, .int .i64 V2, .int .i64 k2.rate, .slice k2.A k2.n k2.c] 75)) := (Below.refl _ _).alloc (Nat.le_refl _) _
        replace E : Hid (Below w.heap.size w (v23.alloc (.cells #[.int .i64 T2, .int .i64 V2, .int .i64 k2.rate, .slice k2.A k2.n k2.c] 75))) := E.out.trans (hb.mono E.out.size)
        replace X3 := Lib.hid (X3.out.below hb X3.out.lt)
        replace M2 := Lib.hid (M2.out.below hb)
        clear hb
        go_upto_region 8 with fail
        generalize hvv : (v23.alloc (.cells #[.int .i64 T2, .int .i64 V2, .int .i64 k2.rate, .slice k2.A k2.n k2.c] 75)) = v24 at *
        clear hvv
        go_wp2_with (refine wpList_blk_loadW (by rfl) 24 _ rfl 2 rfl X6.out [_, _] rfl _ hunc.out rfl hszc.out ?_)
        have CK := Lib.hid (fun W {B : Nat} (h : ClkM W B k2) => rCheck14_any k2 W h)
        rw [R2.out.chk] at CK
        refine (CK.out _ M2.out).mono ?_
        rintro e v25 ⟨rfl, hb⟩
        replace E : Hid (Below w.heap.size w v25) := E.out.trans (hb.mono E.out.size)
        replace X3 := Lib.hid (X3.out.below hb X3.out.lt)
        replace M2 := Lib.hid (M2.out.below hb)
        replace X6 := Lib.hid (X6.out.below hb X6.out.lt)
        clear hb CK
        obtain ⟨lc, hlc⟩ : ∃ x, V2 / 1000000 = x := ⟨_, rfl⟩
        have v20 := R2.out.v0
        have hlc2 : V2.tdiv 1000000 = lc := by rw [Int.tdiv_eq_ediv_of_nonneg v20]; exact hlc
        have wl : wrap64 lc = lc := by have := R2.out.v1; unfold wrap64; omega
        have wl' : IntKind.i64.wrap lc = lc := by have := R2.out.v1; rw [IntKind.wrap_i64]; omega
        obtain ⟨n1, n2, n3⟩ := R2.out.now
        have CN := Lib.hid (fun W {B : Nat} (h : ClkM W B k2) => now_any k2 (V2 / 1000000) W h)
        rw [n1, hlc] at CN
        rw [hlc] at n2 n3
        generalize nwLo k2.rate k2.l lc = ul at *
        generalize nwHi k2.rate k2.l lc = uh at *
        have n2H := Lib.hid n2
        have n3H := Lib.hid n3
        clear n1 n2 n3 v20
        have q1 := X6.out.cell (j := 1) rfl
        go_wp2_with (refine wpList_blk_load rfl 24 _ rfl 2 rfl X6.out [_, _] rfl _ hunc.out rfl hszc.out ?_)
        refine (CN.out _ M2.out).mono ?_
        rintro e v26 ⟨rfl, hb⟩
        replace E : Hid (Below w.heap.size w v26) := E.out.trans (hb.mono E.out.size)
        replace X3 := Lib.hid (X3.out.below hb X3.out.lt)
        replace M2 := Lib.hid (M2.out.below hb)
        replace X6 := Lib.hid (X6.out.below hb X6.out.lt)
        clear hb CN q1 hlc hlc2 wl wl'
        have X8 : Hid (Blk (v26.alloc (.cells #[.int .i64 ul, .int .i64 uh] 27)) v26.heap.size [.int .i64 ul, .int .i64 uh] 27) := Blk.new v26 [_, _] _
        have hb : Below v26.heap.size v26 (v26.alloc (.cells #[.int .i64 ul, .int .i64 uh] 27)) := (Below.refl _ _).alloc (Nat.le_refl _) _
        replace E : Hid (Below w.heap.size w (v26.alloc (.cells #[.int .i64 ul, .int .i64 uh] 27))) := E.out.trans (hb.mono E.out.size)
        replace X3 := Lib.hid (X3.out.below hb X3.out.lt)
        replace M2 := Lib.hid (M2.out.below hb)
        replace X6 := Lib.hid (X6.out.below hb X6.out.lt)
        clear hb
        have q0 := X6.out.cell (j := 0) rfl
        have q3 := X8.out.cell (j := 0) rfl
        have q4 := X8.out.cell (j := 1) rfl
        have n1 : ¬ T2 < ul := by have := n2H.out; omega
        have tn1 := decide_eq_false n1
        have n2 : ¬ uh < T2 := by have := n3H.out; omega
        have tn2 := decide_eq_false n2
        go_upto_region 13 with fail
        clear q0 q3 q4 n1 tn1 n2 tn2 X8
        generalize hvv : (v26.alloc (.cells #[.int .i64 ul, .int .i64 uh] 27)) = v27 at *
        clear hvv
        have wi : wrap64 ((i : Int) + 1) = (i : Int) + 1 := by have := hib.out; unfold wrap64; omega
        have wi' : IntKind.i64.wrap ((i : Int) + 1) = (i : Int) + 1 := by have := hib.out; rw [IntKind.wrap_i64]; omega
        go_wp2_with (first | (refine wpList_blk_load rfl 75 _ rfl 0 rfl X6.out [_, _, _, _] rfl _ hunm.out rfl hszm.out ?_) | (refine wpList_row_store rfl 75 _ _ rfl [.int .i64 T2, .int .i64 V2, .int .i64 k2.rate, .slice k2.A k2.n k2.c] rfl rfl X3.out hszm.out rfl (oneM _ _ _ _ _ _) ?_; intro v28 hw9 ho9))
        have M3 : Hid (ClkM v28 v28.heap.size k2) := (M2.out.only ho9 (.inr K2.out)).up (M2.out.only ho9 (.inr K2.out)).le (Nat.le_refl _)
        have E3 : Hid (Below w.heap.size w v28) := E.out.trans (ho9.below (Nat.le_of_lt hg3r.out))
        go_roundg gk
        case measure => omega
        case rel => exact ⟨i + 1, T2, V2, k2, by omega, by go_num, by rw [Int.natCast_add]; exact T2b.out, by rw [Int.natCast_add]; exact V2b.out, R2, M3, K2, E3, hw9.out⟩

end Go.Proofs.Ytpdalebnodgcdaa
