/-
  Stage 10 (domain): the functions that find the domain of a disk; finder, Of.
-/
import Derived.Test.YtelcaddgkjkegaaDme
namespace Go.Proofs.Ytelcaddgkjkegaa
set_option linter.unusedVariables false
set_option linter.unusedSimpArgs false
open Go.RowKit

/-- What was below B stands, and so does each block that holds no integers and no slice of integers. -/
def KeepT (B : Nat) (w W : World) : Prop := Below B w W ∧ ∀ (g : Nat) (L : List Value) (t : TypeId), t ≠ 3 → t ≠ 22 → Blk w g L t → Blk W g L t
theorem KeepT.refl (B : Nat) (w : World) : KeepT B w w := ⟨Below.refl _ _, fun _ _ _ _ _ h => h⟩
theorem KeepT.trans {B : Nat} {a b c : World} (h : KeepT B a b) (k : KeepT B b c) : KeepT B a c := ⟨h.1.trans k.1, fun g L t h1 h2 hb => k.2 g L t h1 h2 (h.2 g L t h1 h2 hb)⟩
theorem KeepT.of {B : Nat} {w W : World} (h : Below w.heap.size w W) (hB : B ≤ w.heap.size) : KeepT B w W := ⟨h.mono hB, fun _ _ _ _ _ hb => hb.below h hb.lt⟩
theorem KeepT.le {B B' : Nat} {w W : World} (h : KeepT B w W) (hB : B' ≤ B) : KeepT B' w W := ⟨h.1.mono hB, h.2⟩
theorem KeepT.dom {B g : Nat} {w W : World} {L : List Value} (h : KeepT B w W) (hb : Blk w g L 25) : Blk W g L 25 := h.2 g L _ (by decide) (by decide) hb
theorem KeepT.fn {B g : Nat} {w W : World} {L : List Value} (h : KeepT B w W) (hb : Blk w g L 34) : Blk W g L 34 := h.2 g L _ (by decide) (by decide) hb
/-- A value is a function that answers F where ok, in each later world, and draws at most. -/
def FnV (B : Nat) (w : World) (v : Value) (F : Int → Int) (ok : Int → Prop) : Prop :=
  ∃ (f : Nat) (cap : List Value), v = .func (.func f) #[] cap.toArray ∧ (∀ (args : Array Value) (W : World), (callFunc f args).run Try.prog W = .ok (.enter f args) W) ∧
    ∀ (W : World), KeepT B w W → ∀ x, ok x → Calls Try.prog f (iv x :: cap).toArray W fun e W' => e = .returned (iv (F x)) ∧ ∃ k, W' = W.drewN k
theorem FnV.later {B : Nat} {w w' : World} {v : Value} {F : Int → Int} {ok : Int → Prop} (h : FnV B w v F ok) (hb : KeepT B w w') : FnV B w' v F ok := by
  obtain ⟨f, cap, h1, h2, h3⟩ := h
  exact ⟨f, cap, h1, h2, fun W hW x hx => h3 W (hb.trans hW) x hx⟩

set_option maxRecDepth 100000 in
theorem find1_v (B : Nat) (w : World) (ok : Int → Prop) : FnV B w (.func (.func 33) #[] #[]) (fun _ => -1) ok := by
  refine ⟨_, [], rfl, enter_of Try.func33 (by kernel_rfl) (by kernel_rfl), fun W _ x _ => ?_⟩
  unfold iv
  go_enter Try.func33, Try.ntmps33
  go_wp2_with fail
  go_ret
  exact ⟨rfl, 0, rfl⟩
set_option maxRecDepth 100000 in
theorem find2_v (B : Nat) (w : World) (ok : Int → Prop) : FnV B w (.func (.func 34) #[] #[]) (fun x => x) ok := by
  refine ⟨_, [], rfl, enter_of Try.func34 (by kernel_rfl) (by kernel_rfl), fun W _ x _ => ?_⟩
  unfold iv
  go_enter Try.func34, Try.ntmps34
  go_wp2_with fail
  go_ret
  exact ⟨rfl, 0, rfl⟩
set_option maxRecDepth 100000 in
set_option maxHeartbeats 1000000 in
theorem find3_v {B : Nat} {h : Hd} {d : Dm} {w : World} (m : DomM w B h d) {g : Nat} (hg : Blk w g h.cells 25) :
    FnV B w (.func (.func 35) #[] #[.pointer (some ⟨g, 0, none⟩)]) d.owH (fun x => 0 ≤ x ∧ x < d.H.length) := by
  refine ⟨_, [_], rfl, enter_of Try.func35 (by kernel_rfl) (by kernel_rfl), fun W hW x hx => ?_⟩
  obtain ⟨x0, x1⟩ := hx
  obtain ⟨k, rfl⟩ : ∃ k : Nat, x = k := ⟨x.toNat, by omega⟩
  have p2 := (hW.dom hg).cell (j := 2) rfl
  obtain ⟨ad, ha, hab, hc⟩ := (m.keep hW.1).house (k := k) (by omega)
  have t : (k : Int) < (h.n3 : Int) := by rw [m.l3]; exact x1
  have t0 : 0 ≤ (k : Int) := by omega
  unfold iv
  rw [ha] at p2
  generalize h.n3 = n3 at *
  generalize h.c3 = c3 at *
  generalize d.owH k = y at *
  clear hg ha m x1 hW
  go_enter Try.func35, Try.ntmps35
  go_wp2_with fail
  go_ret
  exact ⟨rfl, 0, rfl⟩

set_option maxRecDepth 100000 in
set_option maxHeartbeats 1000000 in
theorem find4_v {B : Nat} {h : Hd} {d : Dm} {w : World} (m : DomM w B h d) {g ga : Nat} {va : Value} {G : Int → Int} {ok : Int → Prop} (hg : Blk w g h.cells 25) (hga : Blk w ga [va] 34) (hv : FnV B w va G ok) (hok : ∀ x : Int, 0 ≤ x ∧ x < d.R.length → ok (d.hsR x)) :
    FnV B w (.func (.func 36) #[] #[.pointer (some ⟨ga, 0, none⟩), .pointer (some ⟨g, 0, none⟩)]) (fun x => G (d.hsR x)) (fun x => 0 ≤ x ∧ x < d.R.length) := by
  refine ⟨_, [_, _], rfl, enter_of Try.func36 (by kernel_rfl) (by kernel_rfl), fun W hW x hx => ?_⟩
  have hko := hok x hx
  obtain ⟨x0, x1⟩ := hx
  obtain ⟨k, rfl⟩ : ∃ k : Nat, x = k := ⟨x.toNat, by omega⟩
  have hW2 : ∀ q : ExtOf W.drew, KeepT B w q.world := fun q => hW.trans (KeepT.of (q.below (Nat.le_refl _)) (Nat.le_trans m.le hW.1.size))
  have p1 : ∀ q : ExtOf W.drew, q.world.cell? ⟨g, 1, none⟩ = some (.slice h.a2 h.n2 h.c2) := fun q => ((hW2 q).dom hg).cell (j := 1) rfl
  have p2 : ∀ q : ExtOf W.drew, q.world.cell? ⟨ga, 0, none⟩ = some va := fun q => ((hW2 q).fn hga).cell (j := 0) rfl
  obtain ⟨ad, ha, hab, hc, _⟩ := m.rack (k := k) (by omega)
  have p3 : ∀ q : ExtOf W.drew, q.world.cell? ((ad.add (k * 2))) = some (.int .i64 (d.hsR k)) := fun q => by
    obtain ⟨ad', ha', _, hc, _⟩ := (m.keep (hW2 q).1).rack (k := k) (by omega)
    rw [ha] at ha'
    obtain rfl := Option.some.inj ha'
    exact hc
  have t : (k : Int) < (h.n2 : Int) := by rw [m.l2]; exact x1
  have t0 : 0 ≤ (k : Int) := by omega
  obtain ⟨f, cap, rfl, hcf, hC⟩ := hv
  have HC := Lib.hid (fun W' hW' => hC W' hW' (d.hsR k) hko)
  have hWb := Lib.hid hW
  have hWd : Hid (KeepT B W W.drew) := KeepT.of ((Below.refl _ _).drew) (Nat.le_trans m.le hW.1.size)
  show Calls Try.prog _ _ W fun e W' => e = .returned (iv (G (d.hsR k))) ∧ ∃ k, W' = W.drewN k
  unfold iv at HC ⊢
  rw [ha] at p1
  generalize h.n2 = n2 at *
  generalize h.c2 = c2 at *
  generalize d.hsR k = y at *
  generalize G y = z at *
  clear hg ha m x1 hW hC hok hga hc
  go_enter Try.func36, Try.ntmps36
  go_wp2_with fail
  refine wp_region_planM [] [(true, 0), (true, 1), (true, 2), (true, 3), (true, 4), (true, 5), (true, 6), (false, 7), (true, 8)] (by decide) (by kernel_rfl) (by kernel_rfl) (by decide) (by intro c a d v w h; cases d <;> exact h) ?_
  change wpPlanM _ _ _ _ _ _ W.drew
  iterate 7 (refine wpPlanM_plain rfl (fun K hK => ?_); go_simp; refine hK _ ?_; clear hK K)
  clear p1 p2 p3
  refine wpPlanM_call rfl (fun K hK => ?_)
  go_wp2_with fail
  refine (HC.out W.drew (hWb.out.trans hWd.out)).mono ?_
  rintro e w2 ⟨rfl, k2, rfl⟩
  go_wp2_with fail
  refine planPostL_normal ⟨.inr (by rw [← World.drewN_drewN]; exact below_drewN (Below.refl _ _) k2), hK _ _ ?_⟩
  clear hK K
  iterate 1 (refine wpPlanM_plain rfl (fun K hK => ?_); go_simp; refine hK _ ?_; clear hK K)
  refine wpPlanM_nil ?_
  go_wp2_with fail
  go_ret
  exact ⟨rfl, 1 + k2, rfl⟩

set_option maxRecDepth 100000 in
set_option maxHeartbeats 1000000 in
theorem find5_v {B : Nat} {h : Hd} {d : Dm} {w : World} (m : DomM w B h d) {g ga : Nat} {va : Value} {G : Int → Int} {ok : Int → Prop} (hg : Blk w g h.cells 25) (hga : Blk w ga [va] 34) (hv : FnV B w va G ok) (hok : ∀ x : Int, 0 ≤ x ∧ x < d.D.length → ok (d.rk x.toNat)) :
    FnV B w (.func (.func 37) #[] #[.pointer (some ⟨ga, 0, none⟩), .pointer (some ⟨g, 0, none⟩)]) (fun x => G (d.rk x.toNat)) (fun x => 0 ≤ x ∧ x < d.D.length) := by
  refine ⟨_, [_, _], rfl, enter_of Try.func37 (by kernel_rfl) (by kernel_rfl), fun W hW x hx => ?_⟩
  have hko := hok x hx
  obtain ⟨x0, x1⟩ := hx
  obtain ⟨k, rfl⟩ : ∃ k : Nat, x = k := ⟨x.toNat, by omega⟩
  rw [Int.toNat_natCast] at hko
  have hW2 : ∀ q : ExtOf W.drew, KeepT B w q.world := fun q => hW.trans (KeepT.of (q.below (Nat.le_refl _)) (Nat.le_trans m.le hW.1.size))
  have p1 : ∀ q : ExtOf W.drew, q.world.cell? ⟨g, 0, none⟩ = some (.slice h.a1 h.n1 h.c1) := fun q => ((hW2 q).dom hg).cell (j := 0) rfl
  have p2 : ∀ q : ExtOf W.drew, q.world.cell? ⟨ga, 0, none⟩ = some va := fun q => ((hW2 q).fn hga).cell (j := 0) rfl
  obtain ⟨ad, ha, hab, hc⟩ := m.disk (k := k) (by omega)
  have p3 : ∀ q : ExtOf W.drew, q.world.cell? (ad.add k) = some (.int .i64 (d.rk k)) := fun q => by
    obtain ⟨ad', ha', _, hc⟩ := (m.keep (hW2 q).1).disk (k := k) (by omega)
    rw [ha] at ha'
    obtain rfl := Option.some.inj ha'
    exact hc
  have t : (k : Int) < (h.n1 : Int) := by rw [m.l1]; exact x1
  have t0 : 0 ≤ (k : Int) := by omega
  obtain ⟨f, cap, rfl, hcf, hC⟩ := hv
  have HC := Lib.hid (fun W' hW' => hC W' hW' (d.rk k) hko)
  have hWb := Lib.hid hW
  have hWd : Hid (KeepT B W W.drew) := KeepT.of ((Below.refl _ _).drew) (Nat.le_trans m.le hW.1.size)
  show Calls Try.prog _ _ W fun e W' => e = .returned (iv (G (d.rk k))) ∧ ∃ k, W' = W.drewN k
  unfold iv at HC ⊢
  rw [ha] at p1
  generalize h.n1 = n1 at *
  generalize h.c1 = c1 at *
  generalize d.rk k = y at *
  generalize G y = z at *
  clear hg ha m x1 hW hC hok hga hc
  go_enter Try.func37, Try.ntmps37
  go_wp2_with fail
  refine wp_region_planM [] [(true, 0), (true, 1), (true, 2), (true, 3), (true, 4), (true, 5), (false, 6), (true, 7)] (by decide) (by kernel_rfl) (by kernel_rfl) (by decide) (by intro c a d v w h; cases d <;> exact h) ?_
  change wpPlanM _ _ _ _ _ _ W.drew
  iterate 6 (refine wpPlanM_plain rfl (fun K hK => ?_); go_simp; refine hK _ ?_; clear hK K)
  clear p1 p2 p3
  refine wpPlanM_call rfl (fun K hK => ?_)
  go_wp2_with fail
  refine (HC.out W.drew (hWb.out.trans hWd.out)).mono ?_
  rintro e w2 ⟨rfl, k2, rfl⟩
  go_wp2_with fail
  refine planPostL_normal ⟨.inr (by rw [← World.drewN_drewN]; exact below_drewN (Below.refl _ _) k2), hK _ _ ?_⟩
  clear hK K
  iterate 1 (refine wpPlanM_plain rfl (fun K hK => ?_); go_simp; refine hK _ ?_; clear hK K)
  refine wpPlanM_nil ?_
  go_wp2_with fail
  go_ret
  exact ⟨rfl, 1 + k2, rfl⟩

set_option maxRecDepth 100000 in
set_option maxHeartbeats 1000000 in
theorem find6_v {B : Nat} {h : Hd} {d : Dm} {w : World} (m : DomM w B h d) {g gf : Nat} {va : Value} {G : Int → Int} {ok : Int → Prop} (hg : Blk w g h.cells 25) (hgf : Blk w gf [va] 34) (hv : FnV B w va G ok) (hok : ∀ x : Int, 0 ≤ x ∧ x < d.D.length → ok x) :
    FnV B w (.func (.func 38) #[] #[.pointer (some ⟨g, 0, none⟩), .pointer (some ⟨gf, 0, none⟩)]) (fun x => if 0 ≤ x ∧ x < d.D.length then G x else -1) (fun _ => True) := by
  refine ⟨_, [_, _], rfl, enter_of Try.func38 (by kernel_rfl) (by kernel_rfl), fun W hW x _ => ?_⟩
  have p1 := (hW.dom hg).cell (j := 0) rfl
  have p2 := (hW.fn hgf).cell (j := 0) rfl
  have HI := Lib.hid (isIndex_any x h.n1 W)
  by_cases hin : 0 ≤ x ∧ x < d.D.length
  · have hI : inB x h.n1 = true := inB_iff.2 ⟨hin.1, by rw [m.l1]; exact hin.2⟩
    rw [hI] at HI
    obtain ⟨f, cap, rfl, hcf, hC⟩ := hv
    have HC := Lib.hid (hC W hW x (hok x hin))
    simp only [if_pos hin]
    unfold iv at HC ⊢
    generalize h.n1 = n1 at *
    generalize h.c1 = c1 at *
    generalize h.a1 = a1 at *
    generalize G x = z at *
    clear hg m hin hW hC hok hgf hI
    go_enter Try.func38, Try.ntmps38
    go_wp2_with fail
    refine HI.out.mono ?_
    rintro e w2 ⟨rfl, rfl⟩
    go_wp2_with fail
    refine HC.out.mono ?_
    rintro e w3 ⟨rfl, k, rfl⟩
    go_wp2_with fail
    go_ret
    exact ⟨rfl, k, rfl⟩
  · have hI : inB x h.n1 = false := inB_not.2 (by rw [m.l1]; omega)
    rw [hI] at HI
    simp only [if_neg hin]
    unfold iv
    generalize h.n1 = n1 at *
    generalize h.c1 = c1 at *
    generalize h.a1 = a1 at *
    clear hg m hin hW hok hgf hI p2 hv
    go_enter Try.func38, Try.ntmps38
    go_wp2_with fail
    refine HI.out.mono ?_
    rintro e w2 ⟨rfl, rfl⟩
    go_wp2_with fail
    go_ret
    exact ⟨rfl, 0, rfl⟩
end Go.Proofs.Ytelcaddgkjkegaa
