/-
  Stage 10 (domain): Sell and Ship.
-/
import Derived.Test.YtelcaddgkjkegaaDmr
namespace Go.Proofs.Ytelcaddgkjkegaa
set_option linter.unusedVariables false
set_option linter.unusedSimpArgs false
open Go.RowKit

/-- Two results, the first one in a block. -/
theorem ret_cellD {P : Program} {fn : Func} {p q : Tmp} {ty : TypeId} (hr : fn.results = #[.cell p ty, .tmp q]) (tmps : Array Value) (w : World) {g : Nat} {L : List Value} {t : TypeId} (v : Value) (hp : tmps.getD p undef = .pointer (some ⟨g, 0, none⟩)) (hq : tmps.getD q undef = v) (hb : Blk w g L t)
    (d : TypeDesc) (hu : P.underlying ty = some d) (hd : d.isRow = true) (hi : (P.info? ty).map (·.size) = some L.length) : (results fn tmps).run P w = .ok (.tuple #[.agg L.toArray, v]) w := by
  have hv := run_loadVar_mid (P := P) w g 0 ty L d (hb.range 0 L (by simp)) hu hd hi
  have hp' : tmps[p]?.getD undef = .pointer (some ⟨g, 0, none⟩) := by simpa using hp
  have hq' : tmps[q]?.getD undef = v := by simpa using hq
  simp [results, hr, hp', hq', asAddr, hv]

theorem ownNe {v : Value} {g : Nat} (h : v.ownBlock ≠ some g) : v.ownBlock = none ∨ v.ownBlock ≠ some g := .inr h
theorem onlyGrown {g : Nat} {w w' : World} (h : Only g w w') : w.grownBy w' (some g) := ⟨h.os, h.tape, h.output, by rw [h.size]; exact Nat.le_refl _, fun i hi hne => h.block i (fun e => hne (by rw [e]))⟩
theorem notB {w : World} {base size n b : Nat} {e : TypeId} {v : Value} {xs : List Value} (h : w.ownsRow base e size v n xs) (hb : b < base) : v.ownBlock = none ∨ v.ownBlock ≠ some b := by
  cases hk : v.ownBlock with
  | none => exact .inl rfl
  | some g => exact .inr (fun e => by injection e with e; have := (h.lt g hk).1; omega)
def Dm.none : Dm := ⟨[], [], [], 0⟩
theorem none_fit : DmFit Dm.none := ⟨by simp [Dm.none], by simp [Dm.none], by simp [Dm.none], ⟨by decide, by decide⟩, by simp [Dm.none], by simp [Dm.none], by simp [Dm.none]⟩
theorem none_own (w : World) (base : Nat) : OwnDom w base (.slice none 0 0) (.slice none 0 0) (.slice none 0 0) Dm.none :=
  ⟨ownZ_nil _ _, ownR_nil _ _, ownZ_nil _ _, (by intro g h; cases h), (by intro g h; cases h), (by intro g h; cases h)⟩
/-- What Sell returns. -/
def Dm.sellE (d : Dm) (a b : Int) : Int := if d.chk = 0 then (if inB a d.H.length = true ∧ inB b d.O = true then 0 else 8) else 1
def Dm.sellD (d : Dm) (a b : Int) : Dm := if d.sellE a b = 0 then { d with H := d.H.set a.toNat b } else Dm.none
/-- What Ship returns. -/
def Dm.van (d : Dm) (a : Int) : Bool := (d.R.getD a.toNat (0, false)).2
def Dm.shipE (d : Dm) (a b : Int) : Int := if d.chk = 0 then (if inB a d.R.length = true ∧ inB b d.H.length = true then (if d.van a = true then 0 else 4) else 8) else 1
def Dm.shipD (d : Dm) (a b : Int) : Dm := if d.shipE a b = 0 then { d with R := d.R.set a.toNat (b, true) } else Dm.none
theorem rflat_set {R : List (Int × Bool)} {k : Nat} {r : Int × Bool} (b : Int) (h : R[k]? = some r) : (rflat R).set (k * 2) (iv b) = rflat (R.set k (b, r.2)) := by
  induction R generalizing k with
  | nil => simp at h
  | cons x R ih =>
    cases k with
    | zero =>
      obtain rfl : x = r := by simpa using h
      rfl
    | succ k =>
      have := ih (k := k) (by simpa using h)
      rw [show (k + 1) * 2 = k * 2 + 1 + 1 by omega]
      show iv x.1 :: Value.bool x.2 :: (rflat R).set (k * 2) (iv b) = iv x.1 :: Value.bool x.2 :: rflat (R.set k (b, r.2))
      rw [this]
theorem build_zeroD (w : World) : (Instr.build 25 #[]).run Try.prog w = .ok (.agg zeroD.toArray) w := by kernel_rfl

set_option maxRecDepth 100000 in
set_option maxHeartbeats 8000000 in
theorem dsell_any {B : Nat} (h : Hd) (d : Dm) (a b : Int) (w : World) (m : DomM w B h d) (ha : Wm.Fits a) (hb : Wm.Fits b) :
    Calls Try.prog 19 #[h.val, .int .i64 a, .int .i64 b] w fun e w' => ∃ v1 v2 v3, e = .returned (.tuple #[.agg #[v1, v2, v3, .int .i64 (d.sellD a b).O], .int .i64 (d.sellE a b)]) ∧ OwnDom w' w.heap.size v1 v2 v3 (d.sellD a b) ∧ Below w.heap.size w w' := by
  have hbz : ∀ w, (Instr.build 25 #[]).run Try.prog w = .ok (.agg #[.slice none 0 0, .slice none 0 0, .slice none 0 0, .int .i64 0]) w := build_zeroD
  obtain ⟨W1, hW1⟩ : ∃ W1, W1 = (w.alloc (.cells h.cells.toArray 25)).alloc (.cells zeroD.toArray 25) := ⟨_, rfl⟩
  have hB1 : Hid (Below w.heap.size w W1) := by show Below _ _ _; rw [hW1]; exact ((Below.refl _ _).alloc (Nat.le_refl _) _).alloc (by simp) _
  have s1 : Hid (W1.heap.size = w.heap.size + 1 + 1) := by show _ = _; rw [hW1]; simp
  have hR1 : Hid (Blk W1 w.heap.size h.cells 25) := by show Blk _ _ _ _; rw [hW1]; exact (Blk.new _ _ _).alloc _
  have hZ1 : Hid (Blk W1 (w.heap.size + 1) zeroD 25) := by show Blk _ _ _ _; rw [hW1]; exact (Blk.new _ _ _).at (by simp)
  have hm1 := Lib.hid (m.below hB1.out)
  have hfit := Lib.hid m.fit
  have CC := Lib.hid (dcheck_any h d W1 hm1.out)
  have CL := Lib.hid (fun W (hW : Below W1.heap.size W1 W) hs => dclone_any h d W (hm1.out.below hW) hs)
  have hW1' := Lib.hid hW1
  have hdd := Lib.hid size_dom
  have hun : Hid (Try.prog.underlying 25 = _) := Try.underlying25
  have hlt1 := Lib.hid hR1.out.lt
  have hle := Lib.hid m.le
  have hl1 : Hid (h.n1 = d.D.length) := m.l1
  have hl2 : Hid (h.n2 = d.R.length) := m.l2
  have hl3 : Hid (h.n3 = d.H.length) := m.l3
  have hlo : Hid (h.o = d.O) := m.eo
  obtain ⟨q, hq0⟩ : ∃ q, q = d.chk := ⟨_, rfl⟩
  have hq := Lib.hid hq0
  rw [← hq0] at CC
  obtain ⟨E, hE0⟩ : ∃ E, E = d.sellE a b := ⟨_, rfl⟩
  obtain ⟨R, hR0⟩ : ∃ R, R = d.sellD a b := ⟨_, rfl⟩
  have hE := Lib.hid hE0
  have hRR := Lib.hid hR0
  rw [← hE0, ← hR0]
  have hRE : Hid (E ≠ 0 → R = Dm.none) := fun hh => by rw [hRR.out]; unfold Dm.sellD; rw [if_neg (by rw [← hE.out]; exact hh)]
  clear hq0 hE0 hR0 m hW1
  unfold Hd.cells at hR1 hW1'
  unfold zeroD at hZ1 hW1'
  unfold Hd.val at CC CL ⊢
  obtain ⟨a1, n1, c1, a2, n2, c2, a3, n3, c3, o⟩ := h
  dsimp only at *
  have hzo : ∀ u ∈ ([.slice none 0 0, .slice none 0 0, .slice none 0 0, .int .i64 0] : List Value), u.oneCell' = true := by
    intro u hu
    simp at hu
    rcases hu with rfl | rfl <;> rfl
  have hend : Hid (∀ (w2 w3 : World) (N : Nat), Below w.heap.size w w2 → Only (w.heap.size + 1) w2 w3 → E = (N : Int) → N ≠ 0 → ∃ v1 v2 v3, Ending.returned (.tuple #[.agg #[.slice none 0 0, .slice none 0 0, .slice none 0 0, .int .i64 0], .int .i64 (N : Int)]) = Ending.returned (.tuple #[.agg #[v1, v2, v3, .int .i64 R.O], .int .i64 E]) ∧ OwnDom w3 w.heap.size v1 v2 v3 R ∧ Below w.heap.size w w3) := fun w2 w3 N h1 h2 h3 h4 => by
    have := hRE.out (by omega)
    rw [this, h3]
    exact ⟨_, _, _, rfl, none_own _ _, h1.trans (h2.below (by omega))⟩
  by_cases e0 : q = 0
  rotate_left
  · have hzz : Hid (E = ((1 : Nat) : Int)) := by show _ = _; rw [hE.out]; unfold Dm.sellE; rw [if_neg (by rw [← hq.out]; exact e0)]; rfl
    have e0' : (q != 0) = true := by simp only [bne_iff_ne, ne_eq]; exact e0
    clear e0 hE hRR
    go_enter Try.func19, Try.ntmps19
    go_wp2_with fail
    generalize hg : (w.alloc _).alloc _ = Wg
    have hgW : W1 = Wg := by rw [← hg, hW1'.out]
    clear hg hW1'
    subst hgW
    go_wp2_with (refine wpList_blk_load rfl 25 _ rfl 0 rfl hR1.out _ (take_all0 _) _ hun.out rfl hdd.out ?_)
    refine CC.out.mono ?_
    rintro e w2 ⟨rfl, hb2⟩
    have hB2 := Lib.hid (hB1.out.trans (hb2.mono hB1.out.size))
    have hR2 := Lib.hid (hR1.out.below hb2 hlt1.out)
    have hZ2 := Lib.hid (hZ1.out.below hb2 hZ1.out.lt)
    have hm2 := Lib.hid (hm1.out.below hb2)
    have q1 := hR2.out.cell (j := 1) rfl
    have q2 := hR2.out.cell (j := 2) rfl
    have q3 := hR2.out.cell (j := 3) rfl
    have hb2' := Lib.hid hb2
    clear hb2
    go_wp2_with (refine wpList_row_store rfl 25 _ _ rfl [.slice none 0 0, .slice none 0 0, .slice none 0 0, .int .i64 0] rfl rfl hZ2.out hdd.out rfl hzo ?_; intro w3 hw3 ho3)
    refine bodyPost_ret (ret_cellD rfl _ _ (g := w.heap.size + 1) _ rfl rfl hw3.out _ hun.out rfl hdd.out) rfl ?_
    exact hend.out _ _ 1 hB2.out ho3 hzz.out (by decide)
  subst e0
  have hck : Hid (d.chk = 0) := hq.out.symm
  have hsm := Dm.ok_le hck.out
  have hsm1 : Hid (n1 ≤ 1000000 ∧ n2 ≤ 1000000 ∧ n3 ≤ 1000000) := by show _ ∧ _; rw [hl1.out, hl2.out, hl3.out]; omega
  clear hsm
  have I1 := Lib.hid (fun W => isIndex_any a n3 W)
  have I2 := Lib.hid (fun W => isIndex_any b o W)
  obtain ⟨p1, hp1⟩ : ∃ p, p = inB a n3 := ⟨_, rfl⟩
  obtain ⟨p2, hp2⟩ : ∃ p, p = inB b o := ⟨_, rfl⟩
  rw [← hp1] at I1
  rw [← hp2] at I2
  have hp1' := Lib.hid hp1
  have hp2' := Lib.hid hp2
  have hEE : Hid (E = if p1 = true ∧ p2 = true then 0 else 8) := by
    show _ = _
    rw [hE.out, hp1, hp2]
    unfold Dm.sellE
    rw [if_pos hck.out]
    simp only [hl3.out, hlo.out]
  clear hp1 hp2
  cases p1 with
  | false =>
    have hzz : Hid (E = ((8 : Nat) : Int)) := by show _ = _; rw [hEE.out, if_neg (by simp)]; rfl
    clear hE hRR hEE I2
    go_enter Try.func19, Try.ntmps19
    go_wp2_with fail
    generalize hg : (w.alloc _).alloc _ = Wg
    have hgW : W1 = Wg := by rw [← hg, hW1'.out]
    clear hg hW1'
    subst hgW
    go_wp2_with (refine wpList_blk_load rfl 25 _ rfl 0 rfl hR1.out _ (take_all0 _) _ hun.out rfl hdd.out ?_)
    refine CC.out.mono ?_
    rintro e w2 ⟨rfl, hb2⟩
    have hB2 := Lib.hid (hB1.out.trans (hb2.mono hB1.out.size))
    have hR2 := Lib.hid (hR1.out.below hb2 hlt1.out)
    have hZ2 := Lib.hid (hZ1.out.below hb2 hZ1.out.lt)
    have hm2 := Lib.hid (hm1.out.below hb2)
    have q1 := hR2.out.cell (j := 1) rfl
    have q2 := hR2.out.cell (j := 2) rfl
    have q3 := hR2.out.cell (j := 3) rfl
    have hb2' := Lib.hid hb2
    clear hb2
    go_wp2_with fail
    refine (I1.out _).mono ?_
    rintro e wi ⟨rfl, rfl⟩
    go_wp2_with (refine wpList_row_store rfl 25 _ _ rfl [.slice none 0 0, .slice none 0 0, .slice none 0 0, .int .i64 0] rfl rfl hZ2.out hdd.out rfl hzo ?_; intro w3 hw3 ho3)
    refine bodyPost_ret (ret_cellD rfl _ _ (g := w.heap.size + 1) _ rfl rfl hw3.out _ hun.out rfl hdd.out) rfl ?_
    exact hend.out _ _ 8 hB2.out ho3 hzz.out (by decide)
  | true =>
  cases p2 with
  | false =>
    have hzz : Hid (E = ((8 : Nat) : Int)) := by show _ = _; rw [hEE.out, if_neg (by simp)]; rfl
    clear hE hRR hEE
    go_enter Try.func19, Try.ntmps19
    go_wp2_with fail
    generalize hg : (w.alloc _).alloc _ = Wg
    have hgW : W1 = Wg := by rw [← hg, hW1'.out]
    clear hg hW1'
    subst hgW
    go_wp2_with (refine wpList_blk_load rfl 25 _ rfl 0 rfl hR1.out _ (take_all0 _) _ hun.out rfl hdd.out ?_)
    refine CC.out.mono ?_
    rintro e w2 ⟨rfl, hb2⟩
    have hB2 := Lib.hid (hB1.out.trans (hb2.mono hB1.out.size))
    have hR2 := Lib.hid (hR1.out.below hb2 hlt1.out)
    have hZ2 := Lib.hid (hZ1.out.below hb2 hZ1.out.lt)
    have hm2 := Lib.hid (hm1.out.below hb2)
    have q1 := hR2.out.cell (j := 1) rfl
    have q2 := hR2.out.cell (j := 2) rfl
    have q3 := hR2.out.cell (j := 3) rfl
    have hb2' := Lib.hid hb2
    clear hb2
    go_wp2_with fail
    refine (I1.out _).mono ?_
    rintro e wi ⟨rfl, rfl⟩
    go_wp2_with fail
    refine (I2.out _).mono ?_
    rintro e wi2 ⟨rfl, rfl⟩
    go_wp2_with (refine wpList_row_store rfl 25 _ _ rfl [.slice none 0 0, .slice none 0 0, .slice none 0 0, .int .i64 0] rfl rfl hZ2.out hdd.out rfl hzo ?_; intro w3 hw3 ho3)
    refine bodyPost_ret (ret_cellD rfl _ _ (g := w.heap.size + 1) _ rfl rfl hw3.out _ hun.out rfl hdd.out) rfl ?_
    exact hend.out _ _ 8 hB2.out ho3 hzz.out (by decide)
  | true =>
  obtain ⟨ia1, ia2⟩ := inB_iff.1 hp1'.out.symm
  obtain ⟨ib1, ib2⟩ := inB_iff.1 hp2'.out.symm
  obtain ⟨i, rfl⟩ : ∃ i : Nat, a = i := ⟨a.toNat, by omega⟩
  have hi : Hid (i < d.H.length) := by show _ < _; rw [← hl3.out]; omega
  have t : (i : Int) < (n3 : Int) := ia2
  have hzz : Hid (E = 0) := by show _ = _; rw [hEE.out, if_pos ⟨rfl, rfl⟩]
  have hRz : Hid (R = { d with H := d.H.set i b }) := by show _ = _; rw [hRR.out]; unfold Dm.sellD; rw [if_pos (by rw [← hE.out]; exact hzz.out), Int.toNat_natCast]
  clear hE hRR hEE
  go_enter Try.func19, Try.ntmps19
  go_wp2_with fail
  generalize hg : (w.alloc _).alloc _ = Wg
  have hgW : W1 = Wg := by rw [← hg, hW1'.out]
  clear hg hW1'
  subst hgW
  go_wp2_with (refine wpList_blk_load rfl 25 _ rfl 0 rfl hR1.out _ (take_all0 _) _ hun.out rfl hdd.out ?_)
  refine CC.out.mono ?_
  rintro e w2 ⟨rfl, hb2⟩
  have hB2 := Lib.hid (hB1.out.trans (hb2.mono hB1.out.size))
  have hR2 := Lib.hid (hR1.out.below hb2 hlt1.out)
  have hZ2 := Lib.hid (hZ1.out.below hb2 hZ1.out.lt)
  have hm2 := Lib.hid (hm1.out.below hb2)
  have q1 := hR2.out.cell (j := 1) rfl
  have q2 := hR2.out.cell (j := 2) rfl
  have q3 := hR2.out.cell (j := 3) rfl
  have hb2' := Lib.hid hb2
  clear hb2
  have t0 : 0 ≤ (i : Int) := by omega
  go_wp2_with fail
  refine (I1.out _).mono ?_
  rintro e wi ⟨rfl, rfl⟩
  go_wp2_with fail
  refine (I2.out _).mono ?_
  rintro e wi2 ⟨rfl, rfl⟩
  go_wp2_with (refine wpList_blk_load rfl 25 _ rfl 0 rfl hR2.out _ (take_all0 _) _ hun.out rfl hdd.out ?_)
  refine (CL.out wi2 hb2'.out hsm1.out).mono ?_
  rintro e w3 ⟨v1, v2, v3, rfl, hOD0, hb3⟩
  have hOD := Lib.hid hOD0
  have hB3 := Lib.hid (hB2.out.trans (hb3.mono hB2.out.size))
  have hR3 := Lib.hid (hR2.out.below hb3 hR2.out.lt)
  have hZ3 := Lib.hid (hZ2.out.below hb3 hZ2.out.lt)
  have hsz3 : Hid (w.heap.size + 1 + 1 ≤ wi2.heap.size) := by show _ ≤ _; rw [← s1.out]; exact hb2'.out.size
  obtain ⟨A1, k1, e1, _⟩ := hOD0.o1.slice
  obtain ⟨A2, k2, e2, _⟩ := hOD0.o2.slice
  obtain ⟨A3, k3, e3, _⟩ := hOD0.o3.slice
  obtain ⟨g, k3p, e3p, hg1, hg2⟩ := hOD0.o3.form (Nat.lt_of_le_of_lt (Nat.zero_le _) hi.out)
  subst e1
  subst e2
  subst e3
  clear hOD0 hb3
  injection e3p with eA _ ek
  subst eA
  subst ek
  have hst : Hid (∀ W, OwnZ W wi2.heap.size (.slice (some ⟨g, 0, none⟩) d.H.length k3) d.H → W.cell? ⟨g, i, none⟩ = some (.int .i64 (d.H.getD i 0)) ∧ W.frozen? ⟨g, i, none⟩ = false ∧ OwnZ (W.setCell ⟨g, i, none⟩ (.int .i64 b)) wi2.heap.size (.slice (some ⟨g, 0, none⟩) d.H.length k3) (d.H.set i b) ∧ W.grownBy (W.setCell ⟨g, i, none⟩ (.int .i64 b)) (some g)) := fun W hO => by
    refine ⟨?_, World.ownsRow.frozenAt hO i, ?_, (World.ownsRow.stored hO i (.int .i64 b)).2⟩
    · rw [World.ownsRow.cellAt hO i (by have := hi.out; omega), List.getElem?_map, List.getD_eq_getElem?_getD, List.getElem?_eq_getElem hi.out]; rfl
    · have := (World.ownsRow.stored hO i (iv b)).1
      unfold OwnZ
      rw [List.length_set, List.map_set]
      exact this
  obtain ⟨m1, hm1e⟩ : ∃ m1, m1 = d.D.length := ⟨_, rfl⟩
  obtain ⟨m2, hm2e⟩ : ∃ m2, m2 = d.R.length := ⟨_, rfl⟩
  obtain ⟨m3, hm3e⟩ : ∃ m3, m3 = d.H.length := ⟨_, rfl⟩
  rw [← hm1e, ← hm2e, ← hm3e] at hOD ⊢
  rw [← hm3e] at hst
  have tm : (i : Int) < (m3 : Int) := by rw [hm3e]; have := hi.out; omega
  clear hm1e hm2e hm3e
  have F1 : Hid True := trivial
  have hgb : Hid (wi2.heap.size ≤ g) := hg1
  go_wp2_with (first | (clear F1; refine wpList_row_store rfl 25 _ _ rfl [.slice A1 m1 k1, .slice A2 m2 k2, .slice (some ⟨g, 0, none⟩) m3 k3, .int .i64 d.O] rfl rfl hR3.out hdd.out rfl (by intro u hu; simp at hu; rcases hu with rfl | rfl | rfl | rfl <;> rfl) ?_; intro w4 hw4 ho4; have p2 := hw4.out.cell (j := 2) rfl; have p1 := hw4.out.cell (j := 1) rfl; have hOz := hOD.out.o3.kept (onlyGrown ho4) (notB hOD.out.o3 (by have := hsz3.out; omega)); obtain ⟨gc, gf, gO, gg⟩ := hst.out w4 hOz; have hRs : Hid (Blk (w4.setCell ⟨g, i, none⟩ (.int .i64 b)) w.heap.size [.slice A1 m1 k1, .slice A2 m2 k2, .slice (some ⟨g, 0, none⟩) m3 k3, .int .i64 d.O] 25) := ((Below.heap_setCell _ _ _ _ (by show w.heap.size ≠ g; have := hgb.out; have := hsz3.out; omega)).trans hw4.out); have hZs : Hid (Blk (w4.setCell ⟨g, i, none⟩ (.int .i64 b)) (w.heap.size + 1) [.slice none 0 0, .slice none 0 0, .slice none 0 0, .int .i64 0] 25) := ((Below.heap_setCell _ _ _ _ (by show w.heap.size + 1 ≠ g; have := hgb.out; have := hsz3.out; omega)).trans (hZ3.out.only ho4 (by omega)))) | (refine wpList_blk_load rfl 25 _ rfl 0 rfl hRs.out _ (take_all0 _) _ hun.out rfl hdd.out ?_) | (refine wpList_row_store rfl 25 _ _ rfl [.slice A1 m1 k1, .slice A2 m2 k2, .slice (some ⟨g, 0, none⟩) m3 k3, .int .i64 d.O] rfl rfl hZs.out hdd.out rfl (by intro u hu; simp at hu; rcases hu with rfl | rfl | rfl | rfl <;> rfl) ?_; intro w5 hw5 ho5))
  refine bodyPost_ret (ret_cellD rfl _ _ (g := w.heap.size + 1) _ rfl rfl hw5.out _ hun.out rfl hdd.out) rfl ?_
  have hs3 := hsz3.out
  have hb4 : Below w.heap.size w w4 := hB3.out.trans (ho4.below (Nat.le_refl _))
  have hb5 : Below w.heap.size w w5 := (hb4.trans ((Below.refl w.heap.size w4).setCell (p := ⟨g, i, none⟩) (by show w.heap.size ≤ g; have := hgb.out; omega) _)).trans (ho5.below (by omega))
  obtain ⟨o1, o2, o3, x12, x13, x23⟩ := hOD.out
  have u1 := (o1.kept (onlyGrown ho4) (notB o1 (by omega))).kept gg (ownNe (fun h => x13 g h rfl))
  have u2 := (o2.kept (onlyGrown ho4) (notB o2 (by omega))).kept gg (ownNe (fun h => x23 g h rfl))
  refine ⟨_, _, _, (by rw [hzz.out, hRz.out]; rfl), ?_, hb5⟩
  rw [hRz.out]
  exact ⟨OwnZ.lower (u1.kept (onlyGrown ho5) (notB u1 (by omega))) (by omega), OwnR.lower (u2.kept (onlyGrown ho5) (notB u2 (by omega))) (by omega), OwnZ.lower (gO.kept (onlyGrown ho5) (notB gO (by omega))) (by omega), x12, x13, x23⟩

set_option maxRecDepth 100000 in
set_option maxHeartbeats 8000000 in
theorem dship_any {B : Nat} (h : Hd) (d : Dm) (a b : Int) (w : World) (m : DomM w B h d) (ha : Wm.Fits a) (hb : Wm.Fits b) :
    Calls Try.prog 20 #[h.val, .int .i64 a, .int .i64 b] w fun e w' => ∃ v1 v2 v3, e = .returned (.tuple #[.agg #[v1, v2, v3, .int .i64 (d.shipD a b).O], .int .i64 (d.shipE a b)]) ∧ OwnDom w' w.heap.size v1 v2 v3 (d.shipD a b) ∧ Below w.heap.size w w' := by
  have hbz : ∀ w, (Instr.build 25 #[]).run Try.prog w = .ok (.agg #[.slice none 0 0, .slice none 0 0, .slice none 0 0, .int .i64 0]) w := build_zeroD
  obtain ⟨W1, hW1⟩ : ∃ W1, W1 = (w.alloc (.cells h.cells.toArray 25)).alloc (.cells zeroD.toArray 25) := ⟨_, rfl⟩
  have hB1 : Hid (Below w.heap.size w W1) := by show Below _ _ _; rw [hW1]; exact ((Below.refl _ _).alloc (Nat.le_refl _) _).alloc (by simp) _
  have s1 : Hid (W1.heap.size = w.heap.size + 1 + 1) := by show _ = _; rw [hW1]; simp
  have hR1 : Hid (Blk W1 w.heap.size h.cells 25) := by show Blk _ _ _ _; rw [hW1]; exact (Blk.new _ _ _).alloc _
  have hZ1 : Hid (Blk W1 (w.heap.size + 1) zeroD 25) := by show Blk _ _ _ _; rw [hW1]; exact (Blk.new _ _ _).at (by simp)
  have hm1 := Lib.hid (m.below hB1.out)
  have hfit := Lib.hid m.fit
  have CC := Lib.hid (dcheck_any h d W1 hm1.out)
  have CL := Lib.hid (fun W (hW : Below W1.heap.size W1 W) hs => dclone_any h d W (hm1.out.below hW) hs)
  have hW1' := Lib.hid hW1
  have hdd := Lib.hid size_dom
  have hun : Hid (Try.prog.underlying 25 = _) := Try.underlying25
  have hlt1 := Lib.hid hR1.out.lt
  have hle := Lib.hid m.le
  have hl1 : Hid (h.n1 = d.D.length) := m.l1
  have hl2 : Hid (h.n2 = d.R.length) := m.l2
  have hl3 : Hid (h.n3 = d.H.length) := m.l3
  have hlo : Hid (h.o = d.O) := m.eo
  obtain ⟨q, hq0⟩ : ∃ q, q = d.chk := ⟨_, rfl⟩
  have hq := Lib.hid hq0
  rw [← hq0] at CC
  obtain ⟨E, hE0⟩ : ∃ E, E = d.shipE a b := ⟨_, rfl⟩
  obtain ⟨R, hR0⟩ : ∃ R, R = d.shipD a b := ⟨_, rfl⟩
  have hE := Lib.hid hE0
  have hRR := Lib.hid hR0
  rw [← hE0, ← hR0]
  have hRE : Hid (E ≠ 0 → R = Dm.none) := fun hh => by rw [hRR.out]; unfold Dm.shipD; rw [if_neg (by rw [← hE.out]; exact hh)]
  clear hq0 hE0 hR0 m hW1
  unfold Hd.cells at hR1 hW1'
  unfold zeroD at hZ1 hW1'
  unfold Hd.val at CC CL ⊢
  obtain ⟨a1, n1, c1, a2, n2, c2, a3, n3, c3, o⟩ := h
  dsimp only at *
  have hzo : ∀ u ∈ ([.slice none 0 0, .slice none 0 0, .slice none 0 0, .int .i64 0] : List Value), u.oneCell' = true := by
    intro u hu
    simp at hu
    rcases hu with rfl | rfl <;> rfl
  have hend : Hid (∀ (w2 w3 : World) (N : Nat), Below w.heap.size w w2 → Only (w.heap.size + 1) w2 w3 → E = (N : Int) → N ≠ 0 → ∃ v1 v2 v3, Ending.returned (.tuple #[.agg #[.slice none 0 0, .slice none 0 0, .slice none 0 0, .int .i64 0], .int .i64 (N : Int)]) = Ending.returned (.tuple #[.agg #[v1, v2, v3, .int .i64 R.O], .int .i64 E]) ∧ OwnDom w3 w.heap.size v1 v2 v3 R ∧ Below w.heap.size w w3) := fun w2 w3 N h1 h2 h3 h4 => by
    have := hRE.out (by omega)
    rw [this, h3]
    exact ⟨_, _, _, rfl, none_own _ _, h1.trans (h2.below (by omega))⟩
  by_cases e0 : q = 0
  rotate_left
  · have hzz : Hid (E = ((1 : Nat) : Int)) := by show _ = _; rw [hE.out]; unfold Dm.shipE; rw [if_neg (by rw [← hq.out]; exact e0)]; rfl
    have e0' : (q != 0) = true := by simp only [bne_iff_ne, ne_eq]; exact e0
    clear e0 hE hRR
    go_enter Try.func20, Try.ntmps20
    go_wp2_with fail
    generalize hg : (w.alloc _).alloc _ = Wg
    have hgW : W1 = Wg := by rw [← hg, hW1'.out]
    clear hg hW1'
    subst hgW
    go_wp2_with (refine wpList_blk_load rfl 25 _ rfl 0 rfl hR1.out _ (take_all0 _) _ hun.out rfl hdd.out ?_)
    refine CC.out.mono ?_
    rintro e w2 ⟨rfl, hb2⟩
    have hB2 := Lib.hid (hB1.out.trans (hb2.mono hB1.out.size))
    have hR2 := Lib.hid (hR1.out.below hb2 hlt1.out)
    have hZ2 := Lib.hid (hZ1.out.below hb2 hZ1.out.lt)
    have hm2 := Lib.hid (hm1.out.below hb2)
    have q1 := hR2.out.cell (j := 1) rfl
    have q2 := hR2.out.cell (j := 2) rfl
    have q3 := hR2.out.cell (j := 3) rfl
    have hb2' := Lib.hid hb2
    clear hb2
    go_wp2_with (refine wpList_row_store rfl 25 _ _ rfl [.slice none 0 0, .slice none 0 0, .slice none 0 0, .int .i64 0] rfl rfl hZ2.out hdd.out rfl hzo ?_; intro w3 hw3 ho3)
    refine bodyPost_ret (ret_cellD rfl _ _ (g := w.heap.size + 1) _ rfl rfl hw3.out _ hun.out rfl hdd.out) rfl ?_
    exact hend.out _ _ 1 hB2.out ho3 hzz.out (by decide)
  subst e0
  have hck : Hid (d.chk = 0) := hq.out.symm
  have hsm := Dm.ok_le hck.out
  have hsm1 : Hid (n1 ≤ 1000000 ∧ n2 ≤ 1000000 ∧ n3 ≤ 1000000) := by show _ ∧ _; rw [hl1.out, hl2.out, hl3.out]; omega
  clear hsm
  have I1 := Lib.hid (fun W => isIndex_any a n2 W)
  have I2 := Lib.hid (fun W => isIndex_any b n3 W)
  obtain ⟨p1, hp1⟩ : ∃ p, p = inB a n2 := ⟨_, rfl⟩
  obtain ⟨p2, hp2⟩ : ∃ p, p = inB b n3 := ⟨_, rfl⟩
  rw [← hp1] at I1
  rw [← hp2] at I2
  have hp1' := Lib.hid hp1
  have hp2' := Lib.hid hp2
  have hEE : Hid (E = if p1 = true ∧ p2 = true then (if d.van a = true then 0 else 4) else 8) := by
    show _ = _
    rw [hE.out, hp1, hp2]
    unfold Dm.shipE
    rw [if_pos hck.out]
    simp only [hl2.out, hl3.out]
  clear hp1 hp2
  cases p1 with
  | false =>
    have hzz : Hid (E = ((8 : Nat) : Int)) := by show _ = _; rw [hEE.out, if_neg (by simp)]; rfl
    clear hE hRR hEE I2
    go_enter Try.func20, Try.ntmps20
    go_wp2_with fail
    generalize hg : (w.alloc _).alloc _ = Wg
    have hgW : W1 = Wg := by rw [← hg, hW1'.out]
    clear hg hW1'
    subst hgW
    go_wp2_with (refine wpList_blk_load rfl 25 _ rfl 0 rfl hR1.out _ (take_all0 _) _ hun.out rfl hdd.out ?_)
    refine CC.out.mono ?_
    rintro e w2 ⟨rfl, hb2⟩
    have hB2 := Lib.hid (hB1.out.trans (hb2.mono hB1.out.size))
    have hR2 := Lib.hid (hR1.out.below hb2 hlt1.out)
    have hZ2 := Lib.hid (hZ1.out.below hb2 hZ1.out.lt)
    have hm2 := Lib.hid (hm1.out.below hb2)
    have q1 := hR2.out.cell (j := 1) rfl
    have q2 := hR2.out.cell (j := 2) rfl
    have q3 := hR2.out.cell (j := 3) rfl
    have hb2' := Lib.hid hb2
    clear hb2
    go_wp2_with fail
    refine (I1.out _).mono ?_
    rintro e wi ⟨rfl, rfl⟩
    go_wp2_with (refine wpList_row_store rfl 25 _ _ rfl [.slice none 0 0, .slice none 0 0, .slice none 0 0, .int .i64 0] rfl rfl hZ2.out hdd.out rfl hzo ?_; intro w3 hw3 ho3)
    refine bodyPost_ret (ret_cellD rfl _ _ (g := w.heap.size + 1) _ rfl rfl hw3.out _ hun.out rfl hdd.out) rfl ?_
    exact hend.out _ _ 8 hB2.out ho3 hzz.out (by decide)
  | true =>
  cases p2 with
  | false =>
    have hzz : Hid (E = ((8 : Nat) : Int)) := by show _ = _; rw [hEE.out, if_neg (by simp)]; rfl
    clear hE hRR hEE
    go_enter Try.func20, Try.ntmps20
    go_wp2_with fail
    generalize hg : (w.alloc _).alloc _ = Wg
    have hgW : W1 = Wg := by rw [← hg, hW1'.out]
    clear hg hW1'
    subst hgW
    go_wp2_with (refine wpList_blk_load rfl 25 _ rfl 0 rfl hR1.out _ (take_all0 _) _ hun.out rfl hdd.out ?_)
    refine CC.out.mono ?_
    rintro e w2 ⟨rfl, hb2⟩
    have hB2 := Lib.hid (hB1.out.trans (hb2.mono hB1.out.size))
    have hR2 := Lib.hid (hR1.out.below hb2 hlt1.out)
    have hZ2 := Lib.hid (hZ1.out.below hb2 hZ1.out.lt)
    have hm2 := Lib.hid (hm1.out.below hb2)
    have q1 := hR2.out.cell (j := 1) rfl
    have q2 := hR2.out.cell (j := 2) rfl
    have q3 := hR2.out.cell (j := 3) rfl
    have hb2' := Lib.hid hb2
    clear hb2
    go_wp2_with fail
    refine (I1.out _).mono ?_
    rintro e wi ⟨rfl, rfl⟩
    go_wp2_with fail
    refine (I2.out _).mono ?_
    rintro e wi2 ⟨rfl, rfl⟩
    go_wp2_with (refine wpList_row_store rfl 25 _ _ rfl [.slice none 0 0, .slice none 0 0, .slice none 0 0, .int .i64 0] rfl rfl hZ2.out hdd.out rfl hzo ?_; intro w3 hw3 ho3)
    refine bodyPost_ret (ret_cellD rfl _ _ (g := w.heap.size + 1) _ rfl rfl hw3.out _ hun.out rfl hdd.out) rfl ?_
    exact hend.out _ _ 8 hB2.out ho3 hzz.out (by decide)
  | true =>
  obtain ⟨ia1, ia2⟩ := inB_iff.1 hp1'.out.symm
  obtain ⟨ib1, ib2⟩ := inB_iff.1 hp2'.out.symm
  obtain ⟨i, rfl⟩ : ∃ i : Nat, a = i := ⟨a.toNat, by omega⟩
  have hi : Hid (i < d.R.length) := by show _ < _; rw [← hl2.out]; omega
  have t : (i : Int) < (n2 : Int) := ia2
  have hrd := fun W (hW : Below W1.heap.size W1 W) => (hm1.out.below hW).rack hi.out
  dsimp only at hrd
  have hvan : Hid (d.van i = (d.R.getD i (0, false)).2) := by show _ = _; unfold Dm.van; rw [Int.toNat_natCast]
  obtain ⟨vn, hvn⟩ : ∃ v, v = (d.R.getD i (0, false)).2 := ⟨_, rfl⟩
  rw [← hvn] at hrd hvan
  have hrd' := Lib.hid hrd
  clear hrd hvn
  cases vn with
  | false =>
    have hzz : Hid (E = ((4 : Nat) : Int)) := by show _ = _; rw [hEE.out, if_pos ⟨rfl, rfl⟩, if_neg (by rw [hvan.out]; simp)]; rfl
    clear hE hRR hEE
    go_enter Try.func20, Try.ntmps20
    go_wp2_with fail
    generalize hg : (w.alloc _).alloc _ = Wg
    have hgW : W1 = Wg := by rw [← hg, hW1'.out]
    clear hg hW1'
    subst hgW
    go_wp2_with (refine wpList_blk_load rfl 25 _ rfl 0 rfl hR1.out _ (take_all0 _) _ hun.out rfl hdd.out ?_)
    refine CC.out.mono ?_
    rintro e w2 ⟨rfl, hb2⟩
    have hB2 := Lib.hid (hB1.out.trans (hb2.mono hB1.out.size))
    have hR2 := Lib.hid (hR1.out.below hb2 hlt1.out)
    have hZ2 := Lib.hid (hZ1.out.below hb2 hZ1.out.lt)
    have hm2 := Lib.hid (hm1.out.below hb2)
    have q1 := hR2.out.cell (j := 1) rfl
    have q2 := hR2.out.cell (j := 2) rfl
    have q3 := hR2.out.cell (j := 3) rfl
    have hb2' := Lib.hid hb2
    clear hb2
    have t0 : 0 ≤ (i : Int) := by omega
    obtain ⟨ad, rfl, _, _, hcv0⟩ := hrd'.out w2 hb2'.out
    have hcv : w2.cell? ⟨(ad.add (i * 2)).block, (ad.add (i * 2)).off + 1, none⟩ = some (.bool false) := by rw [← add_twice] at hcv0; exact hcv0
    clear hcv0
    go_wp2_with fail
    refine (I1.out _).mono ?_
    rintro e wi ⟨rfl, rfl⟩
    go_wp2_with fail
    refine (I2.out _).mono ?_
    rintro e wi2 ⟨rfl, rfl⟩
    go_wp2_with (refine wpList_row_store rfl 25 _ _ rfl [.slice none 0 0, .slice none 0 0, .slice none 0 0, .int .i64 0] rfl rfl hZ2.out hdd.out rfl hzo ?_; intro w3 hw3 ho3)
    refine bodyPost_ret (ret_cellD rfl _ _ (g := w.heap.size + 1) _ rfl rfl hw3.out _ hun.out rfl hdd.out) rfl ?_
    exact hend.out _ _ 4 hB2.out ho3 hzz.out (by decide)
  | true =>
  have hzz : Hid (E = 0) := by show _ = _; rw [hEE.out, if_pos ⟨rfl, rfl⟩, if_pos hvan.out]
  have hRz : Hid (R = { d with R := d.R.set i (b, true) }) := by show _ = _; rw [hRR.out]; unfold Dm.shipD; rw [if_pos (by rw [← hE.out]; exact hzz.out), Int.toNat_natCast]
  clear hE hRR hEE
  go_enter Try.func20, Try.ntmps20
  go_wp2_with fail
  generalize hg : (w.alloc _).alloc _ = Wg
  have hgW : W1 = Wg := by rw [← hg, hW1'.out]
  clear hg hW1'
  subst hgW
  go_wp2_with (refine wpList_blk_load rfl 25 _ rfl 0 rfl hR1.out _ (take_all0 _) _ hun.out rfl hdd.out ?_)
  refine CC.out.mono ?_
  rintro e w2 ⟨rfl, hb2⟩
  have hB2 := Lib.hid (hB1.out.trans (hb2.mono hB1.out.size))
  have hR2 := Lib.hid (hR1.out.below hb2 hlt1.out)
  have hZ2 := Lib.hid (hZ1.out.below hb2 hZ1.out.lt)
  have hm2 := Lib.hid (hm1.out.below hb2)
  have q1 := hR2.out.cell (j := 1) rfl
  have q2 := hR2.out.cell (j := 2) rfl
  have q3 := hR2.out.cell (j := 3) rfl
  have hb2' := Lib.hid hb2
  clear hb2
  have t0 : 0 ≤ (i : Int) := by omega
  obtain ⟨ad, rfl, _, _, hcv0⟩ := hrd'.out w2 hb2'.out
  have hcv : w2.cell? ⟨(ad.add (i * 2)).block, (ad.add (i * 2)).off + 1, none⟩ = some (.bool true) := by rw [← add_twice] at hcv0; exact hcv0
  clear hcv0
  go_wp2_with fail
  refine (I1.out _).mono ?_
  rintro e wi ⟨rfl, rfl⟩
  go_wp2_with fail
  refine (I2.out _).mono ?_
  rintro e wi2 ⟨rfl, rfl⟩
  go_wp2_with (refine wpList_blk_load rfl 25 _ rfl 0 rfl hR2.out _ (take_all0 _) _ hun.out rfl hdd.out ?_)
  refine (CL.out wi2 hb2'.out hsm1.out).mono ?_
  rintro e w3 ⟨v1, v2, v3, rfl, hOD0, hb3⟩
  have hOD := Lib.hid hOD0
  have hB3 := Lib.hid (hB2.out.trans (hb3.mono hB2.out.size))
  have hR3 := Lib.hid (hR2.out.below hb3 hR2.out.lt)
  have hZ3 := Lib.hid (hZ2.out.below hb3 hZ2.out.lt)
  have hsz3 : Hid (w.heap.size + 1 + 1 ≤ wi2.heap.size) := by show _ ≤ _; rw [← s1.out]; exact hb2'.out.size
  obtain ⟨A1, k1, e1, _⟩ := hOD0.o1.slice
  obtain ⟨A2, k2, e2, _⟩ := hOD0.o2.slice
  obtain ⟨A3, k3, e3, _⟩ := hOD0.o3.slice
  obtain ⟨g, k2p, e2p, hg1, hg2⟩ := hOD0.o2.form (Nat.lt_of_le_of_lt (Nat.zero_le _) hi.out)
  subst e1
  subst e2
  subst e3
  clear hOD0 hb3
  injection e2p with eA _ ek
  subst eA
  subst ek
  have hri : Hid (d.R[i]? = some ((d.R.getD i (0, false)).1, true)) := by
    show _ = _
    have h2 : (d.R.getD i (0, false)).2 = true := by have := hvan.out; unfold Dm.van at this; rw [Int.toNat_natCast] at this; exact this
    rw [← h2, List.getD_eq_getElem?_getD, List.getElem?_eq_getElem hi.out]; rfl
  have hst : Hid (∀ W, OwnR W wi2.heap.size (.slice (some ⟨g, 0, none⟩) d.R.length k2) d.R → W.cell? ⟨g, i * 2, none⟩ = some (.int .i64 (d.R.getD i (0, false)).1) ∧ W.frozen? ⟨g, i * 2, none⟩ = false ∧ OwnR (W.setCell ⟨g, i * 2, none⟩ (.int .i64 b)) wi2.heap.size (.slice (some ⟨g, 0, none⟩) d.R.length k2) (d.R.set i (b, true)) ∧ W.grownBy (W.setCell ⟨g, i * 2, none⟩ (.int .i64 b)) (some g)) := fun W hO => by
    refine ⟨?_, World.ownsRow.frozenAt hO (i * 2), ?_, (World.ownsRow.stored hO (i * 2) (.int .i64 b)).2⟩
    · rw [World.ownsRow.cellAt hO (i * 2) (by have := hi.out; omega)]
      exact (rflat_at hri.out).1
    · have := (World.ownsRow.stored hO (i * 2) (iv b)).1
      rw [rflat_set b hri.out] at this
      unfold OwnR
      rw [List.length_set]
      exact this
  obtain ⟨m1, hm1e⟩ : ∃ m1, m1 = d.D.length := ⟨_, rfl⟩
  obtain ⟨m2, hm2e⟩ : ∃ m2, m2 = d.R.length := ⟨_, rfl⟩
  obtain ⟨m3, hm3e⟩ : ∃ m3, m3 = d.H.length := ⟨_, rfl⟩
  rw [← hm1e, ← hm2e, ← hm3e] at hOD ⊢
  rw [← hm2e] at hst
  have tm : (i : Int) < (m2 : Int) := by rw [hm2e]; have := hi.out; omega
  clear hm1e hm2e hm3e
  have F1 : Hid True := trivial
  have hgb : Hid (wi2.heap.size ≤ g) := hg1
  go_wp2_with (first | (clear F1; refine wpList_row_store rfl 25 _ _ rfl [.slice A1 m1 k1, .slice (some ⟨g, 0, none⟩) m2 k2, .slice A3 m3 k3, .int .i64 d.O] rfl rfl hR3.out hdd.out rfl (by intro u hu; simp at hu; rcases hu with rfl | rfl | rfl | rfl <;> rfl) ?_; intro w4 hw4 ho4; have p2 := hw4.out.cell (j := 2) rfl; have p1 := hw4.out.cell (j := 1) rfl; have hOz := hOD.out.o2.kept (onlyGrown ho4) (notB hOD.out.o2 (by have := hsz3.out; omega)); obtain ⟨gc, gf, gO, gg⟩ := hst.out w4 hOz; have hRs : Hid (Blk (w4.setCell ⟨g, i * 2, none⟩ (.int .i64 b)) w.heap.size [.slice A1 m1 k1, .slice (some ⟨g, 0, none⟩) m2 k2, .slice A3 m3 k3, .int .i64 d.O] 25) := ((Below.heap_setCell _ _ _ _ (by show w.heap.size ≠ g; have := hgb.out; have := hsz3.out; omega)).trans hw4.out); have hZs : Hid (Blk (w4.setCell ⟨g, i * 2, none⟩ (.int .i64 b)) (w.heap.size + 1) [.slice none 0 0, .slice none 0 0, .slice none 0 0, .int .i64 0] 25) := ((Below.heap_setCell _ _ _ _ (by show w.heap.size + 1 ≠ g; have := hgb.out; have := hsz3.out; omega)).trans (hZ3.out.only ho4 (by omega)))) | (refine wpList_blk_load rfl 25 _ rfl 0 rfl hRs.out _ (take_all0 _) _ hun.out rfl hdd.out ?_) | (refine wpList_row_store rfl 25 _ _ rfl [.slice A1 m1 k1, .slice (some ⟨g, 0, none⟩) m2 k2, .slice A3 m3 k3, .int .i64 d.O] rfl rfl hZs.out hdd.out rfl (by intro u hu; simp at hu; rcases hu with rfl | rfl | rfl | rfl <;> rfl) ?_; intro w5 hw5 ho5))
  refine bodyPost_ret (ret_cellD rfl _ _ (g := w.heap.size + 1) _ rfl rfl hw5.out _ hun.out rfl hdd.out) rfl ?_
  have hs3 := hsz3.out
  have hb4 : Below w.heap.size w w4 := hB3.out.trans (ho4.below (Nat.le_refl _))
  have hb5 : Below w.heap.size w w5 := (hb4.trans ((Below.refl w.heap.size w4).setCell (p := ⟨g, i * 2, none⟩) (by show w.heap.size ≤ g; have := hgb.out; omega) _)).trans (ho5.below (by omega))
  obtain ⟨o1, o2, o3, x12, x13, x23⟩ := hOD.out
  have u1 := (o1.kept (onlyGrown ho4) (notB o1 (by omega))).kept gg (ownNe (fun h => x12 g h rfl))
  have u3 := (o3.kept (onlyGrown ho4) (notB o3 (by omega))).kept gg (ownNe (fun h => x23 g rfl h))
  refine ⟨_, _, _, (by rw [hzz.out, hRz.out]; rfl), ?_, hb5⟩
  rw [hRz.out]
  exact ⟨OwnZ.lower (u1.kept (onlyGrown ho5) (notB u1 (by omega))) (by omega), OwnR.lower (gO.kept (onlyGrown ho5) (notB gO (by omega))) (by omega), OwnZ.lower (u3.kept (onlyGrown ho5) (notB u3 (by omega))) (by omega), x12, x13, x23⟩
end Go.Proofs.Ytelcaddgkjkegaa
