/-
  Stage 14 (clock): the walk of ClockDeadlinesAreSure. (Written by tools/genuzd.py.)
-/
import Derived.Test.YtbkgbjimooobbaaUzb
import Derived.Test.YtbkgbjimooobbaaOpl
import Derived.Test.YtbkgbjimooobbaaUx
namespace Go.Proofs.Ytbkgbjimooobbaa
set_option linter.unusedVariables false
set_option linter.unusedSimpArgs false
open Go.RowKit
theorem size_stpD : (Try.prog.info? 36).map (·.size) = some 5 := by kernel_rfl
theorem size_runD : (Try.prog.info? 25).map (·.size) = some 3 := by kernel_rfl
/-- Numbers that are read: each is a number of 16 bits. -/
def I16M (w : World) (B : Nat) (A : Option Addr) (n : Nat) : Prop :=
  ∀ i, i < n → ∃ ad, A = some ad ∧ ad.block < B ∧ ∃ x : Int, (-32768 ≤ x ∧ x ≤ 32767) ∧ w.cell? (ad.add i) = some (.int .i16 x)
theorem wrap_near {T x : Int} (h1 : 0 ≤ T) (h2 : T ≤ 100000) (h3 : -32768 ≤ x) (h4 : x ≤ 32767) : wrap64 (T + x) = T + x ∧ IntKind.i64.wrap (T + x) = T + x ∧ IntKind.i64.wrap x = x := by
  refine ⟨?_, ?_, ?_⟩
  · unfold wrap64; omega
  · rw [IntKind.wrap_i64]; omega
  · rw [IntKind.wrap_i64]; omega
theorem wrap_iD {i : Nat} (h : i ≤ 30) : wrap64 ((i : Int) + 1) = (i : Int) + 1 ∧ IntKind.i64.wrap ((i : Int) + 1) = (i : Int) + 1 := by
  constructor
  · unfold wrap64; omega
  · rw [IntKind.wrap_i64]; omega
theorem wrap_lc {x : Int} (h1 : 0 ≤ x) (h2 : x ≤ 3600000000) : wrap64 x = x ∧ IntKind.i64.wrap x = x := by
  constructor
  · unfold wrap64; omega
  · rw [IntKind.wrap_i64]; omega
theorem lat_sure {rate T V due n e : Int} {l : List Rdg} (R : RunK rate T V l) (d0 : 0 ≤ due) (d1 : due ≤ 3600000000) (h : LatR rate l due n e) :
    e = 8 ∨ (e = 0 ∧ ¬ V / 1000000 ≤ n) ∨ (e = 0 ∧ V / 1000000 ≤ n ∧ ¬ due < T) := by
  obtain ⟨n1, n2, n3⟩ := R.now
  have hc : chkA rate l due = 0 := chkA_ok.2 ⟨R.chk, inst_iff.2 ⟨d0, d1⟩⟩
  have h' := h
  rcases h with ⟨h1, _⟩ | ⟨_, i, hs, ⟨_, _, rfl⟩ | ⟨_, _, rfl⟩⟩
  · exact absurd hc h1
  · exact .inl rfl
  · by_cases hle : V / 1000000 ≤ n
    · have := (mo_lat h' n1).1 hle
      exact .inr (.inr ⟨rfl, hle, by omega⟩)
    · exact .inr (.inl ⟨rfl, hle⟩)
theorem ear_sure {rate T V due n e : Int} {l : List Rdg} (R : RunK rate T V l) (d0 : 0 ≤ due) (d1 : due ≤ 3600000000) (h : EarR rate l due n e) :
    e = 8 ∨ (e = 0 ∧ ¬ n ≤ V / 1000000) ∨ (e = 0 ∧ n ≤ V / 1000000 ∧ ¬ T < due) := by
  obtain ⟨n1, n2, n3⟩ := R.now
  have hc : chkA rate l due = 0 := chkA_ok.2 ⟨R.chk, inst_iff.2 ⟨d0, d1⟩⟩
  have h' := h
  rcases h with ⟨h1, _⟩ | ⟨_, i, hs, ⟨_, _, rfl⟩ | ⟨_, _, rfl⟩⟩
  · exact absurd hc h1
  · exact .inl rfl
  · by_cases hle : n ≤ V / 1000000
    · have := (mo_ear h' n1).1 hle
      exact .inr (.inr ⟨rfl, hle, by omega⟩)
    · exact .inr (.inl ⟨rfl, hle⟩)

set_option maxRecDepth 100000 in
set_option maxHeartbeats 8000000 in
theorem sure_walk (a b : Int) (A : Option Addr) (n c : Nat) (A2 : Option Addr) (n2 c2 : Nat) (w : World) (a0 : 0 ≤ a) (a1 : a ≤ 4294967295) (b0 : 0 ≤ b) (b1 : b ≤ 4294967295) (m : StpM w w.heap.size A n) (m2 : I16M w w.heap.size A2 n2) :
    Calls Try.prog 3 #[.agg #[.int .u32 a, .int .u32 b, .slice A n c], .slice A2 n2 c2] w fun e w' => e = .returned (.bool true) ∧ Below w.heap.size w w' := by
  obtain ⟨w0, hw0⟩ : ∃ w0, w0 = w.alloc (.cells #[.int .u32 a, .int .u32 b, .slice A n c] 25) := ⟨_, rfl⟩
  have E : Hid (Below w.heap.size w w0) := by show Below _ _ _; rw [hw0]; exact (Below.refl _ _).alloc (Nat.le_refl _) _
  have X1 : Hid (Blk w0 w.heap.size [.int .u32 a, .int .u32 b, .slice A n c] 25) := by show Blk _ _ _ _; rw [hw0]; exact Blk.new w [_, _, _] _
  have mH := Lib.hid m
  have mH2 := Lib.hid m2
  have hw0' := Lib.hid hw0
  clear hw0 m m2
  have hunr : Hid (Try.prog.underlying 25 = _) := Try.underlying25
  have hszr := Lib.hid size_runD
  have hunm : Hid (Try.prog.underlying 32 = _) := Try.underlying32
  have hszm := Lib.hid size_mom
  have huns : Hid (Try.prog.underlying 36 = _) := Try.underlying36
  have hszs := Lib.hid size_stpD
  have hunc : Hid (Try.prog.underlying 30 = _) := Try.underlying30
  have hszc := Lib.hid size_clk
  have C1 := Lib.hid (fun W => begun_any a b A n c W a0 a1 b0 b1)
  obtain ⟨V0, hV0⟩ : ∃ x, b % 100000 * 1000000 / 7 = x := ⟨_, rfl⟩
  obtain ⟨p, hp⟩ : ∃ x, a % 100001 = x := ⟨_, rfl⟩
  rw [hV0, hp] at C1
  have hV0r : Hid (V0 ≤ 14285714286) := by show _ ≤ _; omega
  have R0 : Hid (RunK p 0 V0 []) := RunK.begin (by omega) (by omega) (by omega) (by omega)
  clear hV0 hp
  have q2 := X1.out.cell (j := 2) rfl
  by_cases h30 : 30 < n
  · have t30 : (30 : Int) < (n : Int) := by omega
    go_enter Try.func3, Try.ntmps3
    go_upto_region 1 with fail
    generalize hgg : w.alloc _ = Wg
    have hgW : w0 = Wg := by rw [← hgg, hw0'.out]
    clear hgg hw0'
    subst hgW
    go_wp2_with fail
    refine (sanity_any14 _).mono ?_
    rintro e v1 ⟨rfl, hb⟩
    replace E : Hid (Below w.heap.size w v1) := E.out.trans (hb.mono E.out.size)
    replace X1 := Lib.hid (X1.out.below hb X1.out.lt)
    clear hb 
    go_wp2_with fail
    go_ret
    exact ⟨rfl, E.out⟩
  · have t30 : ¬ (30 : Int) < (n : Int) := by omega
    go_enter Try.func3, Try.ntmps3
    go_upto_region 1 with fail
    generalize hgg : w.alloc _ = Wg
    have hgW : w0 = Wg := by rw [← hgg, hw0'.out]
    clear hgg hw0'
    subst hgW
    go_wp2_with (refine wpList_blk_load rfl 25 _ rfl 0 rfl X1.out [_, _, _] rfl _ hunr.out rfl hszr.out ?_)
    clear q2
    refine (C1.out _).mono ?_
    rintro e v1 ⟨rfl, hb⟩
    replace E : Hid (Below w.heap.size w v1) := E.out.trans (hb.mono E.out.size)
    replace X1 := Lib.hid (X1.out.below hb X1.out.lt)
    clear hb C1
    obtain ⟨g3, hg3⟩ : ∃ x, x = v1.heap.size := ⟨_, rfl⟩
    have hg3r : Hid (w.heap.size < g3) := by show _ < _; have := X1.out.lt; omega
    have X3 : Hid (Blk (v1.alloc (.cells #[.int .i64 0, .int .i64 V0, .int .i64 p, .slice none 0 0] 32)) v1.heap.size [.int .i64 0, .int .i64 V0, .int .i64 p, .slice none 0 0] 32) := Blk.new v1 [_, _, _, _] _
    have hb : Below v1.heap.size v1 (v1.alloc (.cells #[.int .i64 0, .int .i64 V0, .int .i64 p, .slice none 0 0] 32)) := (Below.refl _ _).alloc (Nat.le_refl _) _
    replace E : Hid (Below w.heap.size w (v1.alloc (.cells #[.int .i64 0, .int .i64 V0, .int .i64 p, .slice none 0 0] 32))) := E.out.trans (hb.mono E.out.size)
    replace X1 := Lib.hid (X1.out.below hb X1.out.lt)
    clear hb
    have q2 := X1.out.cell (j := 2) rfl
    go_upto_region 4 with fail
    rw [← hg3] at X3 ⊢
    clear hg3
    generalize hvv : (v1.alloc (.cells #[.int .i64 0, .int .i64 V0, .int .i64 p, .slice none 0 0] 32)) = v2 at *
    clear hvv
    go_wp2_with fail
    clear q2
    go_loopg [26] n (fun g s26 wx => ∃ (i : Nat) (T V : Int) (k : Clk), i + g = n ∧ s26 = .int .i64 i ∧ Hid (T ≤ 499 * i) ∧ Hid (V ≤ 14285714286 + 548900000 * i) ∧ Hid (RunK k.rate T V k.l) ∧ Hid (ClkM wx wx.heap.size k) ∧ Hid (∀ ad, k.A = some ad → ad.block ≠ g3) ∧ Hid (Below w.heap.size w wx) ∧ Hid (Blk wx g3 [.int .i64 T, .int .i64 V, .int .i64 k.rate, .slice k.A k.n k.c] 32))
    case atStart => exact ⟨0, 0, V0, ⟨p, none, 0, 0, []⟩, by omega, rfl, by show _ ≤ _; omega, by show _ ≤ _; have := hV0r.out; omega, R0, by have := zero_clk v2; exact ⟨this.r, this.len, this.cap, this.small, this.le, by have := R0.out.rate; unfold Wm.Fits; dsimp only; omega, by simp⟩, (fun ad h => by cases h), E, X3⟩
    case round =>
      obtain ⟨i, T, V, k, hig, rfl, hT, hV, hR, hM, hK, E, X3⟩ := hrel
      clear R0 hV0r
      cases gk with
      | zero =>
        have hkz : ¬ ((i : Int) < (n : Int)) := by omega
        go_wp2_with fail
        refine (sanity_any14 _).mono ?_
        rintro e v21 ⟨rfl, hb⟩
        replace E : Hid (Below w.heap.size w v21) := E.out.trans (hb.mono E.out.size)
        clear hb 
        go_wp2_with fail
        go_ret
        exact ⟨rfl, E.out⟩
      | succ gk =>
        have hkz : (i : Int) < (n : Int) := by omega
        have hi0 : 0 ≤ (i : Int) := by omega
        have hin : i < n := by omega
        have hib : Hid (i ≤ 30) := by show _ ≤ _; omega
        obtain ⟨ad, hA, hadb, f, d, kd, ea, la, ⟨f0, f1⟩, ⟨d0, d1⟩, ⟨kd0, kd1⟩, ⟨ea0, ea1⟩, ⟨la0, la1⟩, hc⟩ := mH.out i hin
        subst hA
        have hcl : Hid (∀ j u, ([.int .u16 f, .int .i32 d, .int .u8 kd, .int .u8 ea, .int .u8 la] : List Value)[j]? = some u → wr.cell? ((ad.add (i * 5)).add j) = some u) := fun j u hu => (E.out.cell (by rw [add_block, add_block]; exact hadb)).trans (hc j u hu)
        have CG := Lib.hid (fun W {B : Nat} (h : ClkM W B k) => goOn_any T V k f d kd ea la W h hR.out f0 f1 d0 d1 kd0 kd1 ea0 ea1 la0 la1 (by have := hT.out; have := hib.out; omega) (by have := hV.out; have := hib.out; omega))
        clear hc hadb f0 f1 d0 d1 kd0 kd1 ea0 ea1 la0 la1 hR
        have hw5 : Hid (wr.heap.size ≤ wr.heap.size) := Nat.le_refl _
        have X5 : Hid (Blk (wr.alloc (.cells #[.int .u16 f, .int .i32 d, .int .u8 kd, .int .u8 ea, .int .u8 la] 36)) wr.heap.size [.int .u16 f, .int .i32 d, .int .u8 kd, .int .u8 ea, .int .u8 la] 36) := Blk.new wr [_, _, _, _, _] _
        have hb : Below wr.heap.size wr (wr.alloc (.cells #[.int .u16 f, .int .i32 d, .int .u8 kd, .int .u8 ea, .int .u8 la] 36)) := (Below.refl _ _).alloc (Nat.le_refl _) _
        replace E : Hid (Below w.heap.size w (wr.alloc (.cells #[.int .u16 f, .int .i32 d, .int .u8 kd, .int .u8 ea, .int .u8 la] 36))) := E.out.trans (hb.mono E.out.size)
        replace X3 := Lib.hid (X3.out.below hb X3.out.lt)
        replace hM := Lib.hid (hM.out.below hb)
        clear hb
        go_upto_region 7 with (refine wpList_load_at rfl 36 _ rfl (ad.add (i * 5)) rfl [.int .u16 f, .int .i32 d, .int .u8 kd, .int .u8 ea, .int .u8 la] _ huns.out rfl hszs.out hcl.out ?_)
        clear hcl hkz
        generalize hvv : (wr.alloc (.cells #[.int .u16 f, .int .i32 d, .int .u8 kd, .int .u8 ea, .int .u8 la] 36)) = v22 at *
        clear hvv
        have hg3w : Hid (g3 < v22.heap.size) := X3.out.lt
        go_wp2_with (first | (refine wpList_blk_load rfl 32 _ rfl 0 rfl X3.out [_, _, _, _] rfl _ hunm.out rfl hszm.out ?_) | (refine wpList_blk_load rfl 36 _ rfl 0 rfl X5.out [_, _, _, _, _] rfl _ huns.out rfl hszs.out ?_))
        refine (CG.out _ hM.out).mono ?_
        rintro e v23 ⟨T2, V2, k2, rfl, hM2, hR2, hT2, hV2, hK2, hb⟩
        replace E : Hid (Below w.heap.size w v23) := E.out.trans (hb.mono E.out.size)
        replace X3 := Lib.hid (X3.out.below hb X3.out.lt)
        have M2 := Lib.hid hM2
        have R2 := Lib.hid hR2
        have T2b : Hid (T2 ≤ 499 * ((i : Int) + 1)) := by show _ ≤ _; have := hT.out; omega
        have V2b : Hid (V2 ≤ 14285714286 + 548900000 * ((i : Int) + 1)) := by show _ ≤ _; have := hV.out; omega
        have K2 : Hid (∀ ad, k2.A = some ad → ad.block ≠ g3) := fun ad h => (hK2 ad h).elim (fun h => hK.out ad h) (fun h => by have := hg3w.out; omega)
        clear hb CG X5 hM hM2 hR2 hT2 hV2 hK2
        clear hT hV hK hg3w
        have X6 : Hid (Blk (v23.alloc (.cells #[.int .i64 T2, .int .i64 V2, .int .i64 k2.rate, .slice k2.A k2.n k2.c] 32)) v23.heap.size [.int .i64 T2, .int .i64 V2, .int .i64 k2.rate, .slice k2.A k2.n k2.c] 32) := Blk.new v23 [_, _, _, _] _
        have hb : Below v23.heap.size v23 (v23.alloc (.cells #[.int .i64 T2, .int .i64 V2, .int .i64 k2.rate, .slice k2.A k2.n k2.c] 32)) := (Below.refl _ _).alloc (Nat.le_refl _) _
        replace E : Hid (Below w.heap.size w (v23.alloc (.cells #[.int .i64 T2, .int .i64 V2, .int .i64 k2.rate, .slice k2.A k2.n k2.c] 32))) := E.out.trans (hb.mono E.out.size)
        replace X3 := Lib.hid (X3.out.below hb X3.out.lt)
        replace M2 := Lib.hid (M2.out.below hb)
        clear hb
        go_upto_region 10 with fail
        generalize hvv : (v23.alloc (.cells #[.int .i64 T2, .int .i64 V2, .int .i64 k2.rate, .slice k2.A k2.n k2.c] 32)) = v24 at *
        clear hvv
        go_upto_region 11 with (first | (refine wpList_blk_load rfl 32 _ rfl 0 rfl X6.out [_, _, _, _] rfl _ hunm.out rfl hszm.out ?_) | (refine wpList_row_store rfl 32 _ _ rfl [.int .i64 T2, .int .i64 V2, .int .i64 k2.rate, .slice k2.A k2.n k2.c] rfl rfl X3.out hszm.out rfl (oneM _ _ _ _ _ _) ?_; intro v25 hw9 ho9))
        replace M2 : Hid (ClkM v25 v25.heap.size k2) := (M2.out.only ho9 (.inr K2.out)).up (M2.out.only ho9 (.inr K2.out)).le (Nat.le_refl _)
        replace E : Hid (Below w.heap.size w v25) := E.out.trans (ho9.below (Nat.le_of_lt hg3r.out))
        replace X3 := Lib.hid hw9.out
        clear hw9 ho9 X6
        have c0 := X3.out.cell (j := 0) rfl
        have c1 := X3.out.cell (j := 1) rfl
        simp only [Act.put, List.setIfInBounds_toArray, List.set_cons_zero, List.set_cons_succ]
        by_cases hka : n2 ≤ i
        · have b1 : decide ((n2 : Int) ≤ (i : Int)) = true := decide_eq_true (by omega)
          have b1n : decide (n2 ≤ i) = true := decide_eq_true hka
          go_wp2_with fail
          go_quiet (fail)
          have hb : Below v25.heap.size v25 (v25.drewN nq) := below_drewN (Below.refl _ _) _
          generalize hgd : v25.drewN nq = v26 at hb ⊢
          replace E : Hid (Below w.heap.size w v26) := E.out.trans (hb.mono E.out.size)
          replace X3 := Lib.hid (X3.out.below hb X3.out.lt)
          replace M2 := Lib.hid (M2.out.below hb)
          clear hb hgd
          clear c0 c1 b1 b1n hka
          obtain ⟨wi, wi'⟩ := wrap_iD hib.out
          go_wp2_with fail
          go_roundg gk
          case measure => omega
          case rel => exact ⟨i + 1, T2, V2, k2, by omega, by go_num, by rw [Int.natCast_add]; exact T2b.out, by rw [Int.natCast_add]; exact V2b.out, R2, Lib.hid (M2.out.up M2.out.le (Nat.le_refl _)), K2, E, X3⟩
        · have b1 : decide ((n2 : Int) ≤ (i : Int)) = false := decide_eq_false (by omega)
          have b1n : decide (n2 ≤ i) = false := decide_eq_false hka
          have hk2n : i < n2 := by omega
          have hk2 : (i : Int) < (n2 : Int) := by omega
          obtain ⟨ad2, hA2, had2, x, ⟨x0, x1⟩, hx⟩ := mH2.out i (by omega)
          subst hA2
          have cx : v25.cell? (ad2.add i) = some (.int .i16 x) := (E.out.cell (by rw [add_block]; exact had2)).trans hx
          have t20 := R2.out.t0
          have t21 : T2 ≤ 100000 := by have := T2b.out; have := hib.out; omega
          have R2T := R2.out.t1
          obtain ⟨lc, hlc⟩ : ∃ x, V2 / 1000000 = x := ⟨_, rfl⟩
          have v20 := R2.out.v0
          have hlc2 : V2.tdiv 1000000 = lc := by rw [Int.tdiv_eq_ediv_of_nonneg v20]; exact hlc
          have lcr : lc ≤ 3600000000 := by have := R2.out.v1; omega
          have lc0 : 0 ≤ lc := by omega
          have dH : Hid (0 ≤ T2 + x → T2 + x ≤ 3600000000) := fun _ => by omega
          have hwl := Lib.hid (wrap_lc lc0 lcr)
          have hws := Lib.hid (wrap_near t20 t21 x0 x1)
          have hlcH := Lib.hid hlc
          clear hx had2 x0 x1 t20 t21 v20 R2T hlc hka lc0 lcr
          by_cases hd : T2 + x < 0
          · have b2 : decide (T2 + x < 0) = true := decide_eq_true hd
            obtain ⟨ws1, ws2, ws3⟩ := hws.out
            clear hws hwl
            go_wp2_with fail
            go_quiet (fail)
            have hb : Below v25.heap.size v25 (v25.drewN nq) := below_drewN (Below.refl _ _) _
            generalize hgd : v25.drewN nq = v27 at hb ⊢
            replace E : Hid (Below w.heap.size w v27) := E.out.trans (hb.mono E.out.size)
            replace X3 := Lib.hid (X3.out.below hb X3.out.lt)
            replace M2 := Lib.hid (M2.out.below hb)
            clear hb hgd
            clear c0 c1 b1 b1n hk2n b2 hd cx hlc2 ws1 ws2 ws3
            obtain ⟨wi, wi'⟩ := wrap_iD hib.out
            go_wp2_with fail
            go_roundg gk
            case measure => omega
            case rel => exact ⟨i + 1, T2, V2, k2, by omega, by go_num, by rw [Int.natCast_add]; exact T2b.out, by rw [Int.natCast_add]; exact V2b.out, R2, Lib.hid (M2.out.up M2.out.le (Nat.le_refl _)), K2, E, X3⟩
          · have b2 : decide (T2 + x < 0) = false := decide_eq_false hd
            have dH0 : Hid (0 ≤ T2 + x) := by show _ ≤ _; omega
            clear hd
            obtain ⟨ws1, ws2, ws3⟩ := hws.out
            obtain ⟨wl, wl'⟩ := hwl.out
            clear hws hwl
            go_wp2_with fail
            go_quiet (fail)
            go_wp2_with fail
            go_quiet (fail)
            generalize hgd : (v25.drewN _).drewN _ = v28
            have hb : Below v25.heap.size v25 v28 := by rw [← hgd]; exact below_drewN (below_drewN (Below.refl _ _) _) _
            replace E : Hid (Below w.heap.size w v28) := E.out.trans (hb.mono E.out.size)
            replace X3 := Lib.hid (X3.out.below hb X3.out.lt)
            replace M2 := Lib.hid (M2.out.below hb)
            clear hb hgd
            clear c0 c1 cx b1 b1n hk2n b2 hlc2 wl wl' ws1 ws2 ws3 hk2 hi0
            obtain ⟨due, hdue⟩ : ∃ y, T2 + x = y := ⟨_, rfl⟩
            rw [hdue] at dH dH0 ⊢
            clear hdue
            have CL := Lib.hid (fun W {B : Nat} (h : ClkM W B k2) => latest_any k2 due W h)
            have CE := Lib.hid (fun W {B : Nat} (h : ClkM W B k2) => earliest_any k2 due W h)
            go_wp2_with (refine wpList_blk_load rfl 30 _ rfl 2 rfl X3.out [_, _] rfl _ hunc.out rfl hszc.out ?_)
            refine (CL.out _ M2.out).mono ?_
            rintro e v29 ⟨n3, e3, rfl, hl3, hb⟩
            replace E : Hid (Below w.heap.size w v29) := E.out.trans (hb.mono E.out.size)
            replace X3 := Lib.hid (X3.out.below hb X3.out.lt)
            replace M2 := Lib.hid (M2.out.below hb)
            have L3 := Lib.hid hl3
            clear hb CL hl3
            go_wp2_with (refine wpList_blk_load rfl 30 _ rfl 2 rfl X3.out [_, _] rfl _ hunc.out rfl hszc.out ?_)
            refine (CE.out _ M2.out).mono ?_
            rintro e v30 ⟨n4, e4, rfl, hl4, hb⟩
            replace E : Hid (Below w.heap.size w v30) := E.out.trans (hb.mono E.out.size)
            replace X3 := Lib.hid (X3.out.below hb X3.out.lt)
            replace M2 := Lib.hid (M2.out.below hb)
            have L4 := Lib.hid hl4
            clear hb CE hl4
            have P3 := lat_sure R2.out dH0.out (dH.out dH0.out) L3.out
            have P4 := ear_sure R2.out dH0.out (dH.out dH0.out) L4.out
            rw [hlcH.out] at P3 P4
            have c0 := X3.out.cell (j := 0) rfl
            clear L3 L4 hlcH dH dH0
            rcases P3 with rfl | ⟨rfl, a1⟩ | ⟨rfl, a1, a2⟩
            · have a1 : True := trivial
              rcases P4 with rfl | ⟨rfl, b1⟩ | ⟨rfl, b1, b2⟩
              · have b1 : True := trivial
                obtain ⟨wi, wi'⟩ := wrap_iD hib.out
                go_wp2_with fail
                go_roundg gk
                case measure => omega
                case rel => exact ⟨i + 1, T2, V2, k2, by omega, by go_num, by rw [Int.natCast_add]; exact T2b.out, by rw [Int.natCast_add]; exact V2b.out, R2, Lib.hid (M2.out.up M2.out.le (Nat.le_refl _)), K2, E, X3⟩
              · have b1' : decide (n4 ≤ lc) = false := decide_eq_false b1
                obtain ⟨wi, wi'⟩ := wrap_iD hib.out
                go_wp2_with fail
                go_roundg gk
                case measure => omega
                case rel => exact ⟨i + 1, T2, V2, k2, by omega, by go_num, by rw [Int.natCast_add]; exact T2b.out, by rw [Int.natCast_add]; exact V2b.out, R2, Lib.hid (M2.out.up M2.out.le (Nat.le_refl _)), K2, E, X3⟩
              · have b1' : decide (n4 ≤ lc) = true := decide_eq_true b1
                have b2' : decide (T2 < due) = false := decide_eq_false b2
                obtain ⟨wi, wi'⟩ := wrap_iD hib.out
                go_wp2_with fail
                go_roundg gk
                case measure => omega
                case rel => exact ⟨i + 1, T2, V2, k2, by omega, by go_num, by rw [Int.natCast_add]; exact T2b.out, by rw [Int.natCast_add]; exact V2b.out, R2, Lib.hid (M2.out.up M2.out.le (Nat.le_refl _)), K2, E, X3⟩
            · have a1' : decide (lc ≤ n3) = false := decide_eq_false a1
              rcases P4 with rfl | ⟨rfl, b1⟩ | ⟨rfl, b1, b2⟩
              · have b1 : True := trivial
                obtain ⟨wi, wi'⟩ := wrap_iD hib.out
                go_wp2_with fail
                go_roundg gk
                case measure => omega
                case rel => exact ⟨i + 1, T2, V2, k2, by omega, by go_num, by rw [Int.natCast_add]; exact T2b.out, by rw [Int.natCast_add]; exact V2b.out, R2, Lib.hid (M2.out.up M2.out.le (Nat.le_refl _)), K2, E, X3⟩
              · have b1' : decide (n4 ≤ lc) = false := decide_eq_false b1
                obtain ⟨wi, wi'⟩ := wrap_iD hib.out
                go_wp2_with fail
                go_roundg gk
                case measure => omega
                case rel => exact ⟨i + 1, T2, V2, k2, by omega, by go_num, by rw [Int.natCast_add]; exact T2b.out, by rw [Int.natCast_add]; exact V2b.out, R2, Lib.hid (M2.out.up M2.out.le (Nat.le_refl _)), K2, E, X3⟩
              · have b1' : decide (n4 ≤ lc) = true := decide_eq_true b1
                have b2' : decide (T2 < due) = false := decide_eq_false b2
                obtain ⟨wi, wi'⟩ := wrap_iD hib.out
                go_wp2_with fail
                go_roundg gk
                case measure => omega
                case rel => exact ⟨i + 1, T2, V2, k2, by omega, by go_num, by rw [Int.natCast_add]; exact T2b.out, by rw [Int.natCast_add]; exact V2b.out, R2, Lib.hid (M2.out.up M2.out.le (Nat.le_refl _)), K2, E, X3⟩
            · have a1' : decide (lc ≤ n3) = true := decide_eq_true a1
              have a2' : decide (due < T2) = false := decide_eq_false a2
              rcases P4 with rfl | ⟨rfl, b1⟩ | ⟨rfl, b1, b2⟩
              · have b1 : True := trivial
                obtain ⟨wi, wi'⟩ := wrap_iD hib.out
                go_wp2_with fail
                go_roundg gk
                case measure => omega
                case rel => exact ⟨i + 1, T2, V2, k2, by omega, by go_num, by rw [Int.natCast_add]; exact T2b.out, by rw [Int.natCast_add]; exact V2b.out, R2, Lib.hid (M2.out.up M2.out.le (Nat.le_refl _)), K2, E, X3⟩
              · have b1' : decide (n4 ≤ lc) = false := decide_eq_false b1
                obtain ⟨wi, wi'⟩ := wrap_iD hib.out
                go_wp2_with fail
                go_roundg gk
                case measure => omega
                case rel => exact ⟨i + 1, T2, V2, k2, by omega, by go_num, by rw [Int.natCast_add]; exact T2b.out, by rw [Int.natCast_add]; exact V2b.out, R2, Lib.hid (M2.out.up M2.out.le (Nat.le_refl _)), K2, E, X3⟩
              · have b1' : decide (n4 ≤ lc) = true := decide_eq_true b1
                have b2' : decide (T2 < due) = false := decide_eq_false b2
                obtain ⟨wi, wi'⟩ := wrap_iD hib.out
                go_wp2_with fail
                go_roundg gk
                case measure => omega
                case rel => exact ⟨i + 1, T2, V2, k2, by omega, by go_num, by rw [Int.natCast_add]; exact T2b.out, by rw [Int.natCast_add]; exact V2b.out, R2, Lib.hid (M2.out.up M2.out.le (Nat.le_refl _)), K2, E, X3⟩

end Go.Proofs.Ytbkgbjimooobbaa
