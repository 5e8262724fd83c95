/-
  Stage 14 (clock): bounds, over the iterator.
-/
import Derived.Test.YtbkgbjimooobbaaUh
namespace Go.Proofs.Ytbkgbjimooobbaa
set_option linter.unusedVariables false
set_option linter.unusedSimpArgs false
open Go.RowKit Go.Shelf
attribute [local go_sem] Oper.semAt_some

theorem bLo_ge (rate x : Int) : ∀ (l : List Rdg) (u : Int), u ≤ bLo rate x l u
  | [], u => Int.le_refl _
  | r :: l, u => by have := bLo_ge rate x l (max u (alLo rate r x)); unfold bLo; omega
theorem bHi_le (rate x : Int) : ∀ (l : List Rdg) (u : Int), bHi rate x l u ≤ u
  | [], u => Int.le_refl _
  | r :: l, u => by have := bHi_le rate x l (min u (alHi rate r x)); unfold bHi; omega
def GrK (t : Nat) (w w' : World) : Prop := w.grownBy w' (some t)
theorem GrK.trans {t : Nat} {a b c : World} (h : GrK t a b) (k : GrK t b c) : GrK t a c := ⟨k.os.trans h.os, k.tape.trans h.tape, k.output.trans h.output, Nat.le_trans h.size k.size, fun i hi hne => (k.block i (Nat.lt_of_lt_of_le hi h.size) hne).trans (h.block i hi hne)⟩
theorem GrK.of {t : Nat} {a b : World} (h : Below a.heap.size a b) : GrK t a b := ⟨h.os, h.tape, h.output, h.size, fun i hi _ => h.block i hi⟩
theorem GrK.only {t : Nat} {a b : World} (h : Only t a b) : GrK t a b := ⟨h.os, h.tape, h.output, by rw [h.size]; exact Nat.le_refl _, fun i _ hne => h.block i (fun e => hne (by rw [e]))⟩
theorem GrK.below {t B : Nat} {a b : World} (h : GrK t a b) (hB : B ≤ t) (hs : B ≤ a.heap.size) : Below B a b := ⟨h.os, h.tape, h.output, h.size, fun i hi => h.block i (by omega) (fun e => by injection e with e; omega)⟩
theorem GrK.blk {t g : Nat} {a b : World} {L : List Value} {ty : TypeId} (hg : GrK t a b) (h : Blk a g L ty) (hne : g ≠ t) : Blk b g L ty := (hg.block g h.lt (fun e => by injection e with e; exact hne e)).trans h
theorem blk_keptK {W W' : World} {row : Option Nat} {g : Nat} {L : List Value} {t : TypeId} (h : Blk W g L t) (hg : W.grownBy W' row) (hrow : ∀ r, row = some r → ∃ o : Obj, W.heap[r]? = some o ∧ o.isCells = false) : Blk W' g L t :=
  (grownBy_keeps_cells hg hrow h rfl).trans h

theorem readings_stops {B : Nat} (n bc bl : Nat) (k : Clk) (x : Int) (w : World) (h0 : 0 ≤ k.rate) (h1 : k.rate ≤ 100000) (hok : ∀ r ∈ k.l, okR r = true) (x0 : 0 ≤ x) (x1 : x ≤ 3600000000) (hm : ClkM w B k) (kc : Blk w bc [.int .i64 k.rate, .slice k.A k.n k.c] 30) (kl : Blk w bl [.int .i64 x] 3) :
    SeqStopsK Fence.wide n Try.prog 33 #[.pointer (some ⟨bc, 0, none⟩), .pointer (some ⟨bl, 0, none⟩)] (fun r : Rdg => #[.agg #[.int .i64 (alLo k.rate r x), .int .i64 (alHi k.rate r x)]]) (KeepK B bc bl) (fun ys => ys = k.l) (fun _ => True) k.l.length w := fun l J Jx W hW hJ _ hY h0' =>
  readings1_in n l bc bl k x J Jx h0 h1 hok x0 x1 (fun pre A C hA hb => hJ pre A C none hA (⟨hb.os, hb.tape, hb.output, hb.size, fun i hi _ => hb.block i hi⟩) (fun r e => by cases e)) hY W (hm.below hW) (kc.below hW kc.lt) (kl.below hW kl.lt) h0'

set_option maxRecDepth 100000 in
set_option maxHeartbeats 8000000 in
theorem bounds_any {B : Nat} (k : Clk) (x : Int) (w : World) (hm : ClkM w B k) (h0 : 0 ≤ k.rate) (h1 : k.rate ≤ 100000) (hok : ∀ r ∈ k.l, okR r = true) (x0 : 0 ≤ x) (x1 : x ≤ 3600000000) :
    Calls Try.prog 25 #[.agg #[.int .i64 k.rate, .slice k.A k.n k.c], .int .i64 x] w fun e w' => e = .returned (.agg #[.int .i64 (bndLo k.rate k.l x), .int .i64 (bndHi k.rate k.l x)]) ∧ Below w.heap.size w w' := by
  refine (callsIn_wide (n := 5)).1 ?_
  have hro : Fence.wide.round = none := rfl
  rcases k with ⟨rate, A, N, c, L⟩
  dsimp only at *
  obtain ⟨W2, hW2⟩ : ∃ W2, W2 = (w.alloc (.cells #[.int .i64 rate, .slice A N c] 30)).alloc (.cells #[.int .i64 0, .int .i64 0] 45) := ⟨_, rfl⟩
  have s2 : W2.heap.size = w.heap.size + 1 + 1 := by rw [hW2]; simp
  have B2 : Hid (Below w.heap.size w W2) := by show Below _ _ _; rw [hW2]; exact ((Below.refl _ _).alloc (Nat.le_refl _) _).alloc (by simp) _
  have X1 : Hid (Blk W2 w.heap.size [.int .i64 rate, .slice A N c] 30) := by show Blk _ _ _ _; rw [hW2]; exact (Blk.new w [_, _] _).alloc _
  have X2 : Hid (Blk W2 (w.heap.size + 1) [.int .i64 0, .int .i64 0] 45) := by show Blk _ _ _ _; rw [hW2]; exact (Blk.new _ [_, _] _).at (by simp)
  have M2 := Lib.hid (hm.below B2.out)
  have hle := hm.le
  have hW2' := Lib.hid hW2
  have hszw := Lib.hid size_whn
  have hunw : Hid (Try.prog.underlying 45 = _) := Try.underlying45
  have hszc := Lib.hid size_clk
  have hunc : Hid (Try.prog.underlying 30 = _) := Try.underlying30
  have hok' := Lib.hid hok
  have CZ := Lib.hid (common_zero W2)
  obtain ⟨RL, hRL⟩ : ∃ y, y = bndLo rate L x := ⟨_, rfl⟩
  obtain ⟨RH, hRH⟩ : ∃ y, y = bndHi rate L x := ⟨_, rfl⟩
  rw [← hRL, ← hRH]
  have hRL' := Lib.hid hRL
  have hRH' := Lib.hid hRH
  clear hW2 hm hok hRL hRH
  refine callsIn_of_wp_marks Try.func25 rfl trivial ?_ hro
  simp only [Try.ntmps25, List.size_toArray, List.length_cons, List.length_nil, Nat.reduceAdd, Nat.reduceSub, Array.replicate_succ, Array.replicate_zero, List.push_toArray, List.append_toArray, List.nil_append, List.cons_append]
  gi_wp2_with fail
  generalize hg : (w.alloc _).alloc _ = Wg
  have hgW : W2 = Wg := by rw [← hg, hW2'.out]
  clear hg hW2'
  subst hgW
  refine ⟨trivial, (callsIn_wide.2 CZ.out).mono ?_⟩
  rintro e w3 ⟨rfl, hb3⟩
  have B3 : Hid (Below w.heap.size w w3) := B2.out.trans (hb3.mono B2.out.size)
  have hs3 : Hid (w.heap.size + 2 ≤ w3.heap.size) := by show _ ≤ _; have := hb3.size; omega
  replace X1 := Lib.hid (X1.out.below hb3 X1.out.lt)
  replace X2 := Lib.hid (X2.out.below hb3 X2.out.lt)
  replace M2 := Lib.hid (M2.out.below hb3)
  clear hb3 CZ
  have X5 : Hid (Blk (w3.alloc (.cells #[.int .i64 0, .int .i64 0] 45)) w3.heap.size [.int .i64 0, .int .i64 0] 45) := Blk.new _ [_, _] _
  have b5 : Hid (Below w3.heap.size w3 (w3.alloc (.cells #[.int .i64 0, .int .i64 0] 45))) := (Below.refl _ _).alloc (Nat.le_refl _) _
  have HR := Lib.hid (fun W => readings_any ⟨rate, A, N, c, L⟩ x W)
  dsimp only at HR
  gi_wp2_with (first | (refine wpListIn_row_storeK rfl 45 _ _ rfl [.int .i64 0, .int .i64 3600000000] rfl rfl X5.out hszw.out rfl (one2 _ _) ?_; intro w4 hw4 ho4; have hb4 : Hid (Below w3.heap.size w3 w4) := b5.out.trans (ho4.below (Nat.le_refl _)); have X1' := Lib.hid (X1.out.below hb4.out X1.out.lt)) | (refine wpListIn_blk_loadK rfl 30 _ rfl 0 rfl X1'.out [_, _] rfl _ hunc.out rfl hszc.out ?_) | (refine ⟨trivial, ?_⟩; gi_at_call 32; refine (callsIn_wide.2 (HR.out _)).mono ?_; rintro e W5 ⟨rfl, hW5⟩) | fail)
  have hs4 : w4.heap.size = w3.heap.size + 1 := by rw [ho4.size, World.size_alloc]
  have b5w : Below w4.heap.size w4 W5 := by rw [hW5]; exact ((Below.refl _ _).alloc (Nat.le_refl _) _).alloc (by simp) _
  have b35 : Hid (Below w3.heap.size w3 W5) := hb4.out.trans (b5w.mono hb4.out.size)
  have B5 : Hid (Below w.heap.size w W5) := B3.out.trans (b35.out.mono B3.out.size)
  have Y2 : Hid (Blk W5 (w.heap.size + 1) [.int .i64 0, .int .i64 0] 45) := X2.out.below b35.out X2.out.lt
  have M5 := Lib.hid (M2.out.below b35.out)
  obtain ⟨g, hgg⟩ : ∃ g, g = w3.heap.size := ⟨_, rfl⟩
  have hw4' := hw4.out
  rw [← hgg] at hs4 hw4' hs3 ⊢
  have Y5 : Hid (Blk W5 g [.int .i64 0, .int .i64 3600000000] 45) := hw4'.below b5w hw4'.lt
  have kc5 : Hid (Blk W5 (g + 1) [.int .i64 rate, .slice A N c] 30) := by show Blk _ _ _ _; rw [hW5, ← hs4]; exact (Blk.new _ [_, _] _).alloc _
  have kl5 : Hid (Blk W5 (g + 1 + 1) [.int .i64 x] 3) := by show Blk _ _ _ _; rw [hW5]; exact (Blk.new _ [_] _).at (by rw [World.size_alloc, hs4])
  have sz5 : Hid (W5.heap.size = g + 3) := by show _ = _; rw [hW5]; simp [hs4]
  rw [hs4] at *
  have hgB := hs3.out
  have hS := readings_stops 4 (g + 1) (g + 1 + 1) ⟨rate, A, N, c, L⟩ x W5 h0 h1 hok'.out x0 x1 M5.out kc5.out kl5.out
  dsimp only at hS
  have hs5 := sz5.out
  rw [← hW5]
  clear hW5 hw4 ho4 hb4 X1' X1 X2 X5 b5 b5w b35 hs4 M2 HR hw4' B3 M5 hgg
  have hBw : B ≤ w.heap.size := hle
  refine wpIn_rangeFunc_ownH hro (by omega) (gf := 33) (lb := #[.pointer (some ⟨g + 1, 0, none⟩), .pointer (some ⟨g + 1 + 1, 0, none⟩)]) rfl trivial (enters_of Try.func33 (by kernel_rfl) rfl)
    hS keepK_t (keepK_b (by omega) (by omega) (by omega)) (Below.refl _ _) (fun _ => rfl)
    (fun (pre : List Rdg) W => (Blk W g [.int .i64 (bLo rate x pre 0), .int .i64 (bHi rate x pre 3600000000)] 45 ∧ Blk W (w.heap.size + 1) [.int .i64 0, .int .i64 0] 45 ∧ Blk W (g + 1) [.int .i64 rate, .slice A N c] 30 ∧ Blk W (g + 1 + 1) [.int .i64 x] 3) ∧ Below w.heap.size w W)
    (fun _ _ _ => False)
    (OwnFrom.and (Own.from (fun s X Y row hs hg hr => ⟨blk_keptK hs.1 hg hr, blk_keptK hs.2.1 hg hr, blk_keptK hs.2.2.1 hg hr, blk_keptK hs.2.2.2 hg hr⟩) _) (ownFrom_below (Nat.le_refl _) (by omega)))
    (fun _ _ _ _ _ hs _ _ => hs)
    ⟨⟨Y5.out, Y2.out, kc5.out, kl5.out⟩, B5.out⟩
    (fun (r : Rdg) a' W => ∃ g6, a' = { tmps := #[.agg #[.int .i64 rate, .slice A N c], .int .i64 x, .pointer (some ⟨w.heap.size, 0, none⟩), undef, .pointer (some ⟨w.heap.size + 1, 0, none⟩), .pointer (some ⟨g, 0, none⟩), .pointer (some ⟨g6, 0, none⟩), .agg #[.int .i64 0, .int .i64 3600000000], .agg #[.int .i64 rate, .slice A N c], .int .i64 x, .func (.func 33) #[] #[.pointer (some ⟨g + 1, 0, none⟩), .pointer (some ⟨g + 1 + 1, 0, none⟩)], .agg #[.int .i64 (alLo rate r x), .int .i64 (alHi rate r x)], undef, undef, undef, undef, undef], defers := [] } ∧ Blk W g6 [.int .i64 (alLo rate r x), .int .i64 (alHi rate r x)] 45 ∧ g + 1 + 1 < g6)
    (fun y a' s X Y row hs hg hr => by obtain ⟨g6, h1, h2, h3⟩ := hs; exact ⟨g6, h1, blk_keptK h2 hg (fun r e => (hr r e).2), h3⟩) ?assign ?body ?done ?stop
  case assign =>
    intro l pre r W K hI hK
    have hI' := Lib.hid hI
    obtain ⟨⟨i1, i2, i3, i4⟩, iB⟩ := hI
    have hlt := Lib.hid i4.lt
    clear i1 i2 i3 i4 iB
    have XA : Hid (Blk (W.alloc (.cells #[.int .i64 0, .int .i64 0] 45)) W.heap.size [.int .i64 0, .int .i64 0] 45) := Blk.new _ [_, _] _
    generalize alLo rate r x = a at *
    generalize alHi rate r x = b at *
    gi_wp2_with (refine wpListIn_row_storeK rfl 45 _ _ rfl [.int .i64 a, .int .i64 b] rfl rfl XA.out hszw.out rfl (one2 _ _) ?_; intro V hV hoV)
    have hb2 : Below W.heap.size W V := ((Below.refl _ _).alloc (Nat.le_refl _) _).trans (hoV.below (Nat.le_refl _))
    obtain ⟨⟨i1, i2, i3, i4⟩, iB⟩ := hI'.out
    have hG : W.grownBy V (some w.heap.size) := GrK.of hb2
    refine hK _ V (KeepsFrom.of_grownBy hG (fun j e => by injection e with e; omega)) ⟨hb2.mono (by have := iB.size; omega), hb2.block _ i3.lt, hb2.block _ i4.lt⟩ ⟨⟨i1.below hb2 i1.lt, i2.below hb2 i2.lt, i3.below hb2 i3.lt, i4.below hb2 i4.lt⟩, iB.trans (hb2.mono iB.size)⟩ ⟨W.heap.size, rfl, hV.out, hlt.out⟩
  case body =>
    rintro l pre r a' W hl2 _ ⟨⟨i1, i2, i3, i4⟩, iB⟩ ⟨g6, rfl, hy, hlg⟩ _
    have e1 := bLo_snoc rate x pre r 0
    have e2 := bHi_snoc rate x pre r 3600000000
    have z1 := bLo_ge rate x pre 0
    have z2 := bHi_le rate x pre 3600000000
    obtain ⟨u, hu⟩ : ∃ y, bLo rate x pre 0 = y := ⟨_, rfl⟩
    obtain ⟨v, hv⟩ : ∃ y, bHi rate x pre 3600000000 = y := ⟨_, rfl⟩
    rw [hu] at e1 z1 i1
    rw [hv] at e2 z2 i1
    generalize alLo rate r x = a at *
    generalize alHi rate r x = b at *
    have f1 : Hid (bLo rate x (pre ++ [r]) 0 = max (max 0 u) a) := by show _ = _; rw [e1]; omega
    have f2 : Hid (bHi rate x (pre ++ [r]) 3600000000 = min (min 3600000000 v) b) := by show _ = _; rw [e2]; omega
    have HC := Lib.hid (fun W => common_two u v a b W)
    have hbs := Lib.hid (fun W => run_build_whn u v a b W)
    obtain ⟨p, hp⟩ : ∃ y, y = max (max 0 u) a := ⟨_, rfl⟩
    obtain ⟨q, hq⟩ : ∃ y, y = min (min 3600000000 v) b := ⟨_, rfl⟩
    rw [← hp] at f1 HC
    rw [← hq] at f2 HC
    have i1' := Lib.hid i1
    have i2' := Lib.hid i2
    have i3' := Lib.hid i3
    have i4' := Lib.hid i4
    have iB' := Lib.hid iB
    have hy' := Lib.hid hy
    have hd' : 1 ≤ 5 - 1 - 1 := by omega
    clear i1 i2 i3 i4 iB hy e1 e2 z1 z2 hu hv hp hq
    gi_wp2_with (first | (refine wpListIn_blk_loadK rfl 45 _ rfl 0 rfl hy'.out [.int .i64 a, .int .i64 b] rfl _ hunw.out rfl hszw.out ?_) | (refine wpListIn_blk_loadK rfl 45 _ rfl 0 rfl i1'.out [.int .i64 u, .int .i64 v] rfl _ hunw.out rfl hszw.out ?_) | (refine wpListIn_buildSlice_twoK rfl 75 _ _ rfl (.agg #[.int .i64 u, .int .i64 v]) (.agg #[.int .i64 a, .int .i64 b]) _ _ rfl rfl (hbs.out _) ?_) | (refine ⟨trivial, ?_⟩; gi_at_call 29; refine (CallsIn.inRound l (callsIn_wide.2 (HC.out _))).mono ?_; rintro e w5 ⟨rfl, hb5⟩) | (refine wpListIn_row_storeK rfl 45 _ _ rfl [.int .i64 p, .int .i64 q] rfl rfl (i1'.out.below hb5 i1'.out.lt) hszw.out rfl (one2 _ _) ?_; intro W6 hW6 ho6))
    have hG : GrK g W W6 := (GrK.of hb5).trans (GrK.only ho6)
    have p2 := hG.blk i2'.out (by omega)
    have p3 := hG.blk i3'.out (by omega)
    have p4 := hG.blk i4'.out (by omega)
    have hBW : Below w.heap.size W W6 := hG.below (by omega) iB'.out.size
    exact ⟨KeepsFrom.of_grownBy hG (fun j e => by injection e with e; omega), ⟨hBW.mono hBw, p3.trans i3'.out.symm, p4.trans i4'.out.symm⟩, ⟨⟨by rw [f1.out, f2.out]; exact hW6.out, p2, p3, p4⟩, iB'.out.trans hBW⟩⟩
  case done =>
    rintro D ys W hD rfl ⟨⟨i1, i2, i3, i4⟩, hB⟩ hK
    have r1 : bLo rate x ys 0 = RL := hRL'.out.symm
    have r2 : bHi rate x ys 3600000000 = RH := hRH'.out.symm
    rw [r1, r2] at i1
    have i1' := Lib.hid i1
    have i2' := Lib.hid i2
    have hB' := Lib.hid hB
    have hlt4 := Lib.hid i4.lt
    have hK' := Lib.hid hK
    clear i1 i2 i3 i4 hK hB r1 r2
    gi_wp2_with (first | (refine wpListIn_blk_loadK rfl 45 _ rfl 0 rfl i1'.out [.int .i64 RL, .int .i64 RH] rfl _ hunw.out rfl hszw.out ?_) | (refine wpListIn_row_storeK rfl 45 _ _ rfl [.int .i64 RL, .int .i64 RH] rfl rfl i2'.out hszw.out rfl (one2 _ _) ?_; intro W6 hW6 ho6))
    have hDs : D ≠ w.heap.size + 1 := by omega
    have hK6 : W6.heap[D]? = some (.deferred (some [])) := (ho6.block D hDs).trans hK'.out
    refine ⟨by simp, .inl ⟨_, _, rfl, run_takeDeferred hK6, ?_⟩⟩
    have hWD : ∀ o', Blk (W6.putObj D o') (w.heap.size + 1) [.int .i64 RL, .int .i64 RH] 45 := fun o' => (World.putObj_heap_other (Ne.symm hDs)).trans hW6.out
    have hBD : ∀ o', Below w.heap.size w (W6.putObj D o') := fun o' => (hB'.out.trans (ho6.below (by omega))).trans (belowK_b (w := W5) (by omega) W6 D _ o' hD hK6 rfl rfl)
    exact ⟨_, ret_blk rfl _ _ (g := w.heap.size + 1) rfl (hWD _) _ hunw.out rfl hszw.out, rfl, hBD _⟩
  case stop =>
    rintro D c pre W _ _ h _
    exact h.elim
end Go.Proofs.Ytbkgbjimooobbaa
