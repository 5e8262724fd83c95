/-
  Stage 10 (domain): finder, Of.
-/
import Derived.Test.YtelcaddgkjkegaaDmf
namespace Go.Proofs.Ytelcaddgkjkegaa
set_option linter.unusedVariables false
set_option linter.unusedSimpArgs false
open Go.RowKit

theorem FnV.congr {B : Nat} {w : World} {v : Value} {F F' : Int → Int} {ok : Int → Prop} (h : FnV B w v F ok) (e : ∀ x, ok x → F' x = F x) : FnV B w v F' ok := by
  obtain ⟨f, cap, h1, h2, h3⟩ := h
  exact ⟨f, cap, h1, h2, fun W hW x hx => by rw [e x hx]; exact h3 W hW x hx⟩
theorem FnV.weak {B : Nat} {w : World} {v : Value} {F : Int → Int} {ok ok' : Int → Prop} (h : FnV B w v F ok) (e : ∀ x, ok' x → ok x) : FnV B w v F ok' := by
  obtain ⟨f, cap, h1, h2, h3⟩ := h
  exact ⟨f, cap, h1, h2, fun W hW x hx => h3 W hW x (e x hx)⟩
/-- The function that finder returns, off the pieces that it is made of. -/
theorem dof_eq {d : Dm} {lv : Int} (h : d.chk = 0) (h0 : 0 ≤ lv) (h3 : lv ≤ 3) (x : Int) : d.of lv x = if 0 ≤ x ∧ x < d.D.length then d.up lv x.toNat else -1 := by
  unfold Dm.of
  by_cases hx : 0 ≤ x ∧ x < d.D.length
  · rw [if_pos hx, if_pos ⟨h, h0, h3, hx.1, hx.2⟩]
  · rw [if_neg hx, if_neg (fun hh => hx ⟨hh.2.2.2.1, hh.2.2.2.2⟩)]
section
variable {B : Nat} {h : Hd} {d : Dm} {w : World} (m : DomM w B h d) {g gf : Nat} (hg : Blk w g h.cells 25)
include m hg
theorem fin0_v (hc : d.chk = 0) (hgf : Blk w gf [.func (.func 34) #[] #[]] 34) :
    FnV B w (.func (.func 38) #[] #[.pointer (some ⟨g, 0, none⟩), .pointer (some ⟨gf, 0, none⟩)]) (d.of 0) (fun _ => True) := by
  refine (find6_v m hg hgf (find2_v B w (fun _ => True)) (fun _ _ => trivial)).congr fun x _ => ?_
  rw [dof_eq hc (by omega) (by omega)]
  by_cases hx : 0 ≤ x ∧ x < d.D.length
  · rw [if_pos hx, if_pos hx]; unfold Dm.up; rw [if_pos rfl]; omega
  · rw [if_neg hx, if_neg hx]
theorem fin1_v (hc : d.chk = 0) {g7 : Nat} (h7 : Blk w g7 [.func (.func 34) #[] #[]] 34)
    (hgf : Blk w gf [.func (.func 37) #[] #[.pointer (some ⟨g7, 0, none⟩), .pointer (some ⟨g, 0, none⟩)]] 34) :
    FnV B w (.func (.func 38) #[] #[.pointer (some ⟨g, 0, none⟩), .pointer (some ⟨gf, 0, none⟩)]) (d.of 1) (fun _ => True) := by
  refine (find6_v m hg hgf (find5_v m hg h7 (find2_v B w (fun _ => True)) (fun _ _ => trivial)) (fun _ h => h)).congr fun x _ => ?_
  rw [dof_eq hc (by omega) (by omega)]
  by_cases hx : 0 ≤ x ∧ x < d.D.length
  · rw [if_pos hx, if_pos hx]; unfold Dm.up; rw [if_neg (by omega), if_pos rfl]
  · rw [if_neg hx, if_neg hx]
theorem fin2_v (hc : d.chk = 0) {g6 g7 : Nat} (h6 : Blk w g6 [.func (.func 34) #[] #[]] 34)
    (h7 : Blk w g7 [.func (.func 36) #[] #[.pointer (some ⟨g6, 0, none⟩), .pointer (some ⟨g, 0, none⟩)]] 34)
    (hgf : Blk w gf [.func (.func 37) #[] #[.pointer (some ⟨g7, 0, none⟩), .pointer (some ⟨g, 0, none⟩)]] 34) :
    FnV B w (.func (.func 38) #[] #[.pointer (some ⟨g, 0, none⟩), .pointer (some ⟨gf, 0, none⟩)]) (d.of 2) (fun _ => True) := by
  refine (find6_v m hg hgf (find5_v m hg h7 (find4_v m hg h6 (find2_v B w (fun _ => True)) (fun _ _ => trivial)) (fun x hx => ?_)) (fun _ h => h)).congr fun x _ => ?_
  · exact Dm.ok_rk hc (by omega)
  rw [dof_eq hc (by omega) (by omega)]
  by_cases hx : 0 ≤ x ∧ x < d.D.length
  · rw [if_pos hx, if_pos hx]; unfold Dm.up; rw [if_neg (by omega), if_neg (by omega), if_pos rfl]
  · rw [if_neg hx, if_neg hx]
theorem fin3_v (hc : d.chk = 0) {g6 g7 : Nat} (h6 : Blk w g6 [.func (.func 35) #[] #[.pointer (some ⟨g, 0, none⟩)]] 34)
    (h7 : Blk w g7 [.func (.func 36) #[] #[.pointer (some ⟨g6, 0, none⟩), .pointer (some ⟨g, 0, none⟩)]] 34)
    (hgf : Blk w gf [.func (.func 37) #[] #[.pointer (some ⟨g7, 0, none⟩), .pointer (some ⟨g, 0, none⟩)]] 34) :
    FnV B w (.func (.func 38) #[] #[.pointer (some ⟨g, 0, none⟩), .pointer (some ⟨gf, 0, none⟩)]) (d.of 3) (fun _ => True) := by
  refine (find6_v m hg hgf (find5_v m hg h7 (find4_v m hg h6 (find3_v m hg) (fun x hx => Dm.ok_hs hc hx.1 hx.2)) (fun x hx => ?_)) (fun _ h => h)).congr fun x _ => ?_
  · exact Dm.ok_rk hc (by omega)
  rw [dof_eq hc (by omega) (by omega)]
  by_cases hx : 0 ≤ x ∧ x < d.D.length
  · rw [if_pos hx, if_pos hx]; unfold Dm.up; rw [if_neg (by omega), if_neg (by omega), if_neg (by omega)]
  · rw [if_neg hx, if_neg hx]
end

theorem size_fn : (Try.prog.info? 34).map (·.size) = some 1 := by kernel_rfl
section
variable {ops : Array Oper} {rest : List Oper} {op : Oper} {a : Act} {w : World} {Q : Exit → Act → World → Prop}
/-- A function value is stored in a box. -/
theorem wpList_fn_store (hgd : op.guard = none) (x y : Operand) (ho : op.op = .store 34 x y) {g : Nat} {u : Value} (f : Nat) (cap : Array Value) (hx : a.eval x = .pointer (some ⟨g, 0, none⟩)) (hy : a.eval y = .func (.func f) #[] cap)
    (hb : Blk w g [u] 34)
    (h : ∀ w', Hid (Blk w' g [.func (.func f) #[] cap] 34) → Only g w w' → wpList Try.prog ops Q rest (a.put op.dst undef) w') : wpList Try.prog ops Q (op :: rest) a w := by
  refine wpList_blk_store hgd 34 x y ho 0 (.func (.func f) #[] cap) hx hy hb size_fn (by simp [Value.cells]) (by intro u hu; simp [Value.cells] at hu; subst hu; rfl) ?_
  intro w' hw ho'
  exact h w' hw ho'
theorem onlyNew_below {w wB wC : World} {B : Nat} {o : Obj} (hb : Below B w wB) (hB : B ≤ wB.heap.size) (h : Only wB.heap.size (wB.alloc o) wC) : Below B w wC := (hb.alloc hB o).trans (h.below hB)
theorem onlyNew_size {wB wC : World} {o : Obj} {g : Nat} (h : Only g (wB.alloc o) wC) : wC.heap.size = wB.heap.size + 1 := by rw [h.size]; simp
end

set_option maxRecDepth 100000 in
set_option maxHeartbeats 4000000 in
theorem finder_any {B : Nat} (h : Hd) (d : Dm) (lv : Int) (w : World) (m : DomM w B h d) :
    Calls Try.prog 26 #[h.val, .int .i64 lv] w fun e w' => ∃ v, e = .returned v ∧ FnV B w' v (d.of lv) (fun _ => True) ∧ Below w.heap.size w w' := by
  have hmf : ∀ (fn : Fn) (first cap : Array Value) (w : World), (Instr.makeFunc fn first cap).run Try.prog w = .ok (.func fn first cap) w := fun _ _ _ _ => rfl
  obtain ⟨W1, hW1⟩ : ∃ W1, W1 = w.alloc (.cells h.cells.toArray 25) := ⟨_, rfl⟩
  have hB1 : Hid (Below w.heap.size w W1) := by show Below _ _ _; rw [hW1]; exact (Below.refl _ _).alloc (Nat.le_refl _) _
  have hR1 : Hid (Blk W1 w.heap.size h.cells 25) := by show Blk _ _ _ _; rw [hW1]; exact Blk.new _ _ _
  have hm1 := Lib.hid (m.below hB1.out)
  have CC := Lib.hid (dsize_any h d lv W1 hm1.out)
  have hW1' := Lib.hid hW1
  have hlt1 := Lib.hid hR1.out.lt
  have hdd := Lib.hid size_dom
  have hun : Hid (Try.prog.underlying 25 = _) := Try.underlying25
  have hR2 := hR1
  unfold Hd.cells at hR2 hW1'
  unfold Hd.val at CC ⊢
  clear m hW1
  obtain ⟨Sz, hSz⟩ : ∃ E : Int, E = d.size lv := ⟨_, rfl⟩
  have hS := Lib.hid hSz
  rw [← hSz] at CC
  clear hSz
  by_cases h0 : Sz = 0
  · have hz : Hid (∀ x, d.of lv x = -1) := fun x => Dm.of_none (by rw [← hS.out]; exact h0) x
    clear hS
    subst h0
    go_enter Try.func26, Try.ntmps26
    go_wp2_with fail
    generalize hg : w.alloc _ = Wg
    have hgW : W1 = Wg := by rw [← hg, hW1'.out]
    clear hg hW1'
    subst hgW
    go_wp2_with (refine wpList_blk_load rfl 25 _ rfl 0 rfl hR2.out _ (take_all0 _) _ hun.out rfl hdd.out ?_)
    refine CC.out.mono ?_
    rintro e w2 ⟨rfl, hb2⟩
    have hB2 := Lib.hid (hB1.out.trans (hb2.mono hB1.out.size))
    have hk2 := Lib.hid (hR1.out.below hb2 hlt1.out)
    have hm2 := Lib.hid (hm1.out.below hb2)
    have hlt2 := Lib.hid (Nat.lt_of_lt_of_le hlt1.out hb2.size)
    clear hb2
    go_wp2_with fail
    go_ret
    exact ⟨_, rfl, (find1_v _ _ _).congr (fun x _ => hz.out x), hB2.out⟩
  have h0' : (Sz == 0) = false := by simp only [beq_eq_false_iff_ne, ne_eq]; exact h0
  obtain ⟨hck, hl0, hl3⟩ := Dm.size_in (d := d) (lv := lv) (by rw [← hS.out]; exact h0)
  have hck' := Lib.hid hck
  clear hck hS h0
  have F1 : Hid True := trivial
  have F2 : Hid True := trivial
  have F3 : Hid True := trivial
  have F4 : Hid True := trivial
  have F5 : Hid True := trivial
  have F6 : Hid True := trivial
  by_cases e0 : lv = 0
  · subst e0
    clear hl0 hl3
    go_enter Try.func26, Try.ntmps26
    go_wp2_with fail
    generalize hg : w.alloc _ = Wg
    have hgW : W1 = Wg := by rw [← hg, hW1'.out]
    clear hg hW1'
    subst hgW
    go_wp2_with (refine wpList_blk_load rfl 25 _ rfl 0 rfl hR2.out _ (take_all0 _) _ hun.out rfl hdd.out ?_)
    refine CC.out.mono ?_
    rintro e w2 ⟨rfl, hb2⟩
    have hB2 := Lib.hid (hB1.out.trans (hb2.mono hB1.out.size))
    have hk2 := Lib.hid (hR1.out.below hb2 hlt1.out)
    have hm2 := Lib.hid (hm1.out.below hb2)
    have hlt2 := Lib.hid (Nat.lt_of_lt_of_le hlt1.out hb2.size)
    clear hb2
    go_wp2_with ((clear F1; refine wpList_fn_store rfl _ _ rfl _ _ rfl rfl (Blk.new w2 [.nilFunc] _) ?_; intro wA hA oA; have pA := hA.out.cell (j := 0) rfl))
    go_ret
    have bA := onlyNew_below (Below.refl w2.heap.size w2) (Nat.le_refl _) oA
    exact ⟨_, rfl, fin0_v (hm2.out.below bA) (hk2.out.below bA hlt2.out) hck'.out hA.out, hB2.out.trans (bA.mono hB2.out.size)⟩
  by_cases e1 : lv = 1
  · subst e1
    clear hl0 hl3 e0
    go_enter Try.func26, Try.ntmps26
    go_wp2_with fail
    generalize hg : w.alloc _ = Wg
    have hgW : W1 = Wg := by rw [← hg, hW1'.out]
    clear hg hW1'
    subst hgW
    go_wp2_with (refine wpList_blk_load rfl 25 _ rfl 0 rfl hR2.out _ (take_all0 _) _ hun.out rfl hdd.out ?_)
    refine CC.out.mono ?_
    rintro e w2 ⟨rfl, hb2⟩
    have hB2 := Lib.hid (hB1.out.trans (hb2.mono hB1.out.size))
    have hk2 := Lib.hid (hR1.out.below hb2 hlt1.out)
    have hm2 := Lib.hid (hm1.out.below hb2)
    have hlt2 := Lib.hid (Nat.lt_of_lt_of_le hlt1.out hb2.size)
    clear hb2
    go_wp2_with (first | (clear F1; refine wpList_fn_store rfl _ _ rfl _ _ rfl rfl (Blk.new w2 [.nilFunc] _) ?_; intro wA hA oA; have pA := hA.out.cell (j := 0) rfl) | (clear F2; refine wpList_fn_store rfl _ _ rfl _ _ rfl rfl (Blk.new wA [.nilFunc] _) ?_; intro wB hB oB; have k5 := Lib.hid ((hA.out.alloc _).only oB (Nat.ne_of_lt hA.out.lt))) | (clear F3; refine wpList_fn_store rfl _ _ rfl _ _ rfl rfl k5.out ?_; intro wC hC oC))
    go_ret
    have bA := onlyNew_below (Below.refl w2.heap.size w2) (Nat.le_refl _) oA
    have bB := onlyNew_below bA bA.size oB
    have bC := bB.trans (oC.below (Nat.le_refl _))
    have sA := onlyNew_size oA
    exact ⟨_, rfl, fin1_v (hm2.out.below bC) (hk2.out.below bC hlt2.out) hck'.out (hB.out.only oC (by omega)) hC.out, hB2.out.trans (bC.mono hB2.out.size)⟩
  by_cases e2 : lv = 2
  · subst e2
    clear hl0 hl3 e0 e1
    go_enter Try.func26, Try.ntmps26
    go_wp2_with fail
    generalize hg : w.alloc _ = Wg
    have hgW : W1 = Wg := by rw [← hg, hW1'.out]
    clear hg hW1'
    subst hgW
    go_wp2_with (refine wpList_blk_load rfl 25 _ rfl 0 rfl hR2.out _ (take_all0 _) _ hun.out rfl hdd.out ?_)
    refine CC.out.mono ?_
    rintro e w2 ⟨rfl, hb2⟩
    have hB2 := Lib.hid (hB1.out.trans (hb2.mono hB1.out.size))
    have hk2 := Lib.hid (hR1.out.below hb2 hlt1.out)
    have hm2 := Lib.hid (hm1.out.below hb2)
    have hlt2 := Lib.hid (Nat.lt_of_lt_of_le hlt1.out hb2.size)
    clear hb2
    go_wp2_with (first | (clear F1; refine wpList_fn_store rfl _ _ rfl _ _ rfl rfl (Blk.new w2 [.nilFunc] _) ?_; intro wA hA oA; have pA := hA.out.cell (j := 0) rfl) | (clear F3; refine wpList_fn_store rfl _ _ rfl _ _ rfl rfl (Blk.new wA [.nilFunc] _) ?_; intro wC hC oC; have k5C := Lib.hid ((hA.out.alloc _).only oC (Nat.ne_of_lt hA.out.lt))) | (clear F4; refine wpList_fn_store rfl _ _ rfl _ _ rfl rfl k5C.out ?_; intro wD hD oD; have pD := hD.out.cell (j := 0) rfl) | (clear F5; refine wpList_fn_store rfl _ _ rfl _ _ rfl rfl (Blk.new wD [.nilFunc] _) ?_; intro wE hE oE; have k5E := Lib.hid ((hD.out.alloc _).only oE (Nat.ne_of_lt hD.out.lt))) | (clear F6; refine wpList_fn_store rfl _ _ rfl _ _ rfl rfl k5E.out ?_; intro wF hF oF))
    go_ret
    have bA := onlyNew_below (Below.refl w2.heap.size w2) (Nat.le_refl _) oA
    have sA := onlyNew_size oA
    have bC := onlyNew_below bA bA.size oC
    have sC := onlyNew_size oC
    have bD := bC.trans (oD.below (Nat.le_refl _))
    have sD := oD.size
    have bE := onlyNew_below bD bD.size oE
    have sE := onlyNew_size oE
    have bF := bE.trans (oF.below (Nat.le_refl _))
    have k6D := hC.out.only oD (by omega)
    have k6E := (k6D.alloc _).only oE (Nat.ne_of_lt k6D.lt)
    have k6F := k6E.only oF (by omega)
    have k7F := hE.out.only oF (by omega)
    exact ⟨_, rfl, fin2_v (hm2.out.below bF) (hk2.out.below bF hlt2.out) hck'.out k6F k7F hF.out, hB2.out.trans (bF.mono hB2.out.size)⟩
  · obtain rfl : lv = 3 := by omega
    clear hl0 hl3 e0 e1 e2
    go_enter Try.func26, Try.ntmps26
    go_wp2_with fail
    generalize hg : w.alloc _ = Wg
    have hgW : W1 = Wg := by rw [← hg, hW1'.out]
    clear hg hW1'
    subst hgW
    go_wp2_with (refine wpList_blk_load rfl 25 _ rfl 0 rfl hR2.out _ (take_all0 _) _ hun.out rfl hdd.out ?_)
    refine CC.out.mono ?_
    rintro e w2 ⟨rfl, hb2⟩
    have hB2 := Lib.hid (hB1.out.trans (hb2.mono hB1.out.size))
    have hk2 := Lib.hid (hR1.out.below hb2 hlt1.out)
    have hm2 := Lib.hid (hm1.out.below hb2)
    have hlt2 := Lib.hid (Nat.lt_of_lt_of_le hlt1.out hb2.size)
    clear hb2
    go_wp2_with (first | (clear F1; refine wpList_fn_store rfl _ _ rfl _ _ rfl rfl (Blk.new w2 [.nilFunc] _) ?_; intro wA hA oA; have pA := hA.out.cell (j := 0) rfl) | (clear F2; refine wpList_fn_store rfl _ _ rfl _ _ rfl rfl hA.out ?_; intro wZ hZ oZ; have pZ := hZ.out.cell (j := 0) rfl) | (clear F3; refine wpList_fn_store rfl _ _ rfl _ _ rfl rfl (Blk.new wZ [.nilFunc] _) ?_; intro wC hC oC; have k5C := Lib.hid ((hZ.out.alloc _).only oC (Nat.ne_of_lt hZ.out.lt))) | (clear F4; refine wpList_fn_store rfl _ _ rfl _ _ rfl rfl k5C.out ?_; intro wD hD oD; have pD := hD.out.cell (j := 0) rfl) | (clear F5; refine wpList_fn_store rfl _ _ rfl _ _ rfl rfl (Blk.new wD [.nilFunc] _) ?_; intro wE hE oE; have k5E := Lib.hid ((hD.out.alloc _).only oE (Nat.ne_of_lt hD.out.lt))) | (clear F6; refine wpList_fn_store rfl _ _ rfl _ _ rfl rfl k5E.out ?_; intro wF hF oF))
    go_ret
    have bA := onlyNew_below (Below.refl w2.heap.size w2) (Nat.le_refl _) oA
    have sA := onlyNew_size oA
    have bZ := bA.trans (oZ.below (Nat.le_refl _))
    have sZ := oZ.size
    have bC := onlyNew_below bZ bZ.size oC
    have sC := onlyNew_size oC
    have bD := bC.trans (oD.below (Nat.le_refl _))
    have sD := oD.size
    have bE := onlyNew_below bD bD.size oE
    have sE := onlyNew_size oE
    have bF := bE.trans (oF.below (Nat.le_refl _))
    have k6D := hC.out.only oD (by omega)
    have k6E := (k6D.alloc _).only oE (Nat.ne_of_lt k6D.lt)
    have k6F := k6E.only oF (by omega)
    have k7F := hE.out.only oF (by omega)
    exact ⟨_, rfl, fin3_v (hm2.out.below bF) (hk2.out.below bF hlt2.out) hck'.out k6F k7F hF.out, hB2.out.trans (bF.mono hB2.out.size)⟩

set_option maxRecDepth 100000 in
set_option maxHeartbeats 4000000 in
theorem dof_any {B : Nat} (h : Hd) (d : Dm) (lv k : Int) (w : World) (m : DomM w B h d) :
    Calls Try.prog 11 #[h.val, .int .i64 lv, .int .i64 k] w fun e w' => e = .returned (.int .i64 (d.of lv k)) ∧ Below w.heap.size w w' := by
  obtain ⟨z, hz0⟩ : ∃ z, z = d.of lv k := ⟨_, rfl⟩
  have hz := Lib.hid hz0
  rw [← hz0]
  clear hz0
  obtain ⟨W1, hW1⟩ : ∃ W1, W1 = w.alloc (.cells h.cells.toArray 25) := ⟨_, rfl⟩
  have hB1 : Hid (Below w.heap.size w W1) := by show Below _ _ _; rw [hW1]; exact (Below.refl _ _).alloc (Nat.le_refl _) _
  have hR1 : Hid (Blk W1 w.heap.size h.cells 25) := by show Blk _ _ _ _; rw [hW1]; exact Blk.new _ _ _
  have CF := Lib.hid (finder_any h d lv W1 (m.below hB1.out))
  have hW1' := Lib.hid hW1
  have hdd := Lib.hid size_dom
  have hun : Hid (Try.prog.underlying 25 = _) := Try.underlying25
  unfold Hd.cells at hR1 hW1'
  unfold Hd.val at CF ⊢
  clear m hW1
  go_enter Try.func11, Try.ntmps11
  go_wp2_with fail
  generalize hg : w.alloc _ = Wg
  have hgW : W1 = Wg := by rw [← hg, hW1'.out]
  clear hg hW1'
  subst hgW
  go_wp2_with (refine wpList_blk_load rfl 25 _ rfl 0 rfl hR1.out _ (take_all0 _) _ hun.out rfl hdd.out ?_)
  refine CF.out.mono ?_
  rintro e w2 ⟨v, rfl, ⟨f, cap, rfl, hcf, hC⟩, hb2⟩
  have hB2 := Lib.hid (hB1.out.trans (hb2.mono hB1.out.size))
  have HC := Lib.hid (hC w2 (KeepT.refl _ _) k trivial)
  rw [← hz.out] at HC
  unfold iv at HC
  clear hb2 hC
  go_wp2_with fail
  refine HC.out.mono ?_
  rintro e w3 ⟨rfl, n, rfl⟩
  go_wp2_with fail
  go_ret
  exact ⟨rfl, below_drewN hB2.out n⟩
end Go.Proofs.Ytelcaddgkjkegaa
