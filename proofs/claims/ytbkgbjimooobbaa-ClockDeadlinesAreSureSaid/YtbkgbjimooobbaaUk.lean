/-
  Stage 14 (clock): sort.Search; Latest and Earliest of the program.
-/
import Derived.Test.YtbkgbjimooobbaaUj
import Derived.Test.YtbkgbjimooobbaaMch
namespace Go.Proofs.Ytbkgbjimooobbaa
set_option linter.unusedVariables false
set_option linter.unusedSimpArgs false
open Go.RowKit

/-- i is where p begins to hold, among N numbers. -/
def SrR (p : Nat → Bool) (N i : Nat) : Prop := i ≤ N ∧ (∀ j, j < i → p j = false) ∧ (∀ j, i ≤ j → j < N → p j = true)
theorem SrR.uniq {p : Nat → Bool} {N i k : Nat} (h : SrR p N i) (h' : SrR p N k) : i = k := by
  rcases Nat.lt_trichotomy i k with h1 | h1 | h1
  · have a := h'.2.1 i h1
    have b := h.2.2 i (Nat.le_refl _) (Nat.lt_of_lt_of_le h1 h'.1)
    rw [a] at b; cases b
  · exact h1
  · have a := h.2.1 k h1
    have b := h'.2.2 k (Nat.le_refl _) (Nat.lt_of_lt_of_le h1 h.1)
    rw [a] at b; cases b

set_option maxRecDepth 100000 in
set_option maxHeartbeats 4000000 in
theorem search14_any (f : Nat) (cap : List Value) (p : Nat → Bool) (N : Nat) (w : World) (hN : N ≤ 4611686018427387904) (hcf : ∀ (args : Array Value) (W : World), (callFunc f args).run Try.prog W = .ok (.enter f args) W) (hmo : ∀ i j, i ≤ j → p i = true → p j = true)
    (HG : ∀ h : Nat, h < N → ∀ W, Below w.heap.size w W → Calls Try.prog f ((.int .i64 h : Value) :: cap).toArray W fun e W' => e = .returned (.bool (p h)) ∧ Below W.heap.size W W') :
    Calls Try.prog 30 #[.int .i64 N, .func (.func f) #[] cap.toArray] w fun e w' => ∃ i : Nat, e = .returned (.int .i64 i) ∧ SrR p N i ∧ Below w.heap.size w w' := by
  have HG' := Lib.hid HG
  have hmo' := Lib.hid hmo
  clear HG hmo
  go_enter Try.func30, Try.ntmps30
  go_wp2_with fail
  go_loopw [5, 6] (fun s5 s6 wr => ∃ i j : Nat, i ≤ j ∧ j ≤ N ∧ s5 = .int .i64 (i : Int) ∧ s6 = .int .i64 (j : Int) ∧ Hid (∀ q, q < i → p q = false) ∧ Hid (∀ q, j ≤ q → q < N → p q = true) ∧ Hid (Below w.heap.size w wr)) (fun s5 s6 _ => (intOf s6).toNat - (intOf s5).toNat)
  case atStart => exact ⟨0, N, by omega, by omega, rfl, rfl, (fun q h => by omega), (fun q h h' => by omega), Below.refl _ _⟩
  case round =>
    obtain ⟨i, j, hij, hjN, rfl, rfl, hlo, hhi, hb⟩ := hrel
    by_cases hlt : i < j
    · have t : (i : Int) < (j : Int) := by omega
      have hw1 : IntKind.i64.wrap ((i : Int) + j) = (i : Int) + j := by rw [IntKind.wrap_i64]; omega
      have hw2 : IntKind.u64.wrap ((i : Int) + j) = (i : Int) + j := by rw [IntKind.wrap_u64]; omega
      obtain ⟨h, hh⟩ : ∃ h : Nat, h = (i + j) / 2 := ⟨_, rfl⟩
      have e1 : ((i : Int) + j) / 2 = (h : Int) := by omega
      have r1 : i ≤ h ∧ h < j := by omega
      have hw3 : IntKind.i64.wrap ((h : Int) + 1) = ((h + 1 : Nat) : Int) := by rw [IntKind.wrap_i64]; omega
      have C := HG'.out h (by omega) wr hb.out
      clear hh
      obtain ⟨b, hbp⟩ : ∃ b, p h = b := ⟨_, rfl⟩
      rw [hbp] at C
      have hbp' := Lib.hid hbp
      clear hbp
      cases b with
      | false =>
        have hlo2 : Hid (∀ q, q < h + 1 → p q = false) := fun q hq => by
          cases hpq : p q with
          | false => rfl
          | true => have := hmo'.out q h (by omega) hpq; rw [hbp'.out] at this; cases this
        clear hbp'
        go_wp2_with fail
        refine C.mono ?_
        rintro e w2 ⟨rfl, hb2⟩
        have hb3 : Hid (Below w.heap.size w w2) := hb.out.trans (hb2.mono hb.out.size)
        clear hb2 C
        go_wp2_with fail
        go_roundw
        case rel => exact ⟨h + 1, j, by omega, hjN, by go_num, rfl, hlo2, hhi, hb3⟩
        case measure => simp [intOf]; omega
      | true =>
        have hhi2 : Hid (∀ q, h ≤ q → q < N → p q = true) := fun q hq _ => hmo'.out h q hq hbp'.out
        clear hbp'
        go_wp2_with fail
        refine C.mono ?_
        rintro e w2 ⟨rfl, hb2⟩
        have hb3 : Hid (Below w.heap.size w w2) := hb.out.trans (hb2.mono hb.out.size)
        clear hb2 C
        go_wp2_with fail
        go_roundw
        case rel => exact ⟨i, h, by omega, by omega, rfl, rfl, hlo, hhi2, hb3⟩
        case measure => simp [intOf]; omega
    · have t : ¬ (i : Int) < (j : Int) := by omega
      obtain rfl : i = j := by omega
      go_wp2_with fail
      go_ret
      exact ⟨i, rfl, ⟨hjN, hlo.out, hhi.out⟩, hb.out⟩

set_option maxRecDepth 100000 in
set_option maxHeartbeats 1000000 in
theorem latest1_any (a b due : Int) (g : Nat) (w : World) (hb : Blk w g [.int .i64 due] 3) :
    Calls Try.prog 19 #[.agg #[.int .i64 a, .int .i64 b], .pointer (some ⟨g, 0, none⟩)] w fun e w' => e = .returned (.bool (decide (due < b))) ∧ Below w.heap.size w w' := by
  have hB1 : Hid (Below w.heap.size w (w.alloc (.cells #[.int .i64 a, .int .i64 b] 45))) := (Below.refl _ _).alloc (Nat.le_refl _) _
  have p1 := (Blk.new w [.int .i64 a, .int .i64 b] 45).cell (j := 1) rfl
  have p2 := (hb.alloc (.cells #[.int .i64 a, .int .i64 b] 45)).cell (j := 0) rfl
  clear hb
  go_enter Try.func19, Try.ntmps19
  go_wp2_with fail
  go_ret
  exact ⟨rfl, hB1.out⟩
set_option maxRecDepth 100000 in
set_option maxHeartbeats 1000000 in
theorem earliest1_any (a b due : Int) (g : Nat) (w : World) (hb : Blk w g [.int .i64 due] 3) :
    Calls Try.prog 20 #[.agg #[.int .i64 a, .int .i64 b], .pointer (some ⟨g, 0, none⟩)] w fun e w' => e = .returned (.bool (decide (due ≤ a))) ∧ Below w.heap.size w w' := by
  have hB1 : Hid (Below w.heap.size w (w.alloc (.cells #[.int .i64 a, .int .i64 b] 45))) := (Below.refl _ _).alloc (Nat.le_refl _) _
  have p1 := (Blk.new w [.int .i64 a, .int .i64 b] 45).cell (j := 0) rfl
  have p2 := (hb.alloc (.cells #[.int .i64 a, .int .i64 b] 45)).cell (j := 0) rfl
  clear hb
  go_enter Try.func20, Try.ntmps20
  go_wp2_with fail
  go_ret
  exact ⟨rfl, hB1.out⟩
set_option maxRecDepth 100000 in
set_option maxHeartbeats 2000000 in
theorem first1_any {B : Nat} (f : Nat) (cap : List Value) (P : Int → Int → Bool) (k : Clk) (x : Int) (bf bc : Nat) (w : World) (hcf : ∀ (args : Array Value) (W : World), (callFunc f args).run Try.prog W = .ok (.enter f args) W)
    (HG : ∀ a b W, Below w.heap.size w W → Calls Try.prog f ((.agg #[.int .i64 a, .int .i64 b] : Value) :: cap).toArray W fun e W' => e = .returned (.bool (P a b)) ∧ Below W.heap.size W W')
    (m : ClkM w B k) (h0 : 0 ≤ k.rate) (h1 : k.rate ≤ 100000) (hok : ∀ r ∈ k.l, okR r = true) (x0 : 0 ≤ x) (x1 : x ≤ 3600000000)
    (hf : Blk w bf [.func (.func f) #[] cap.toArray] 62) (hc : Blk w bc [.int .i64 k.rate, .slice k.A k.n k.c] 30) :
    Calls Try.prog 31 #[.int .i64 x, .pointer (some ⟨bf, 0, none⟩), .pointer (some ⟨bc, 0, none⟩)] w fun e w' => e = .returned (.bool (P (bndLo k.rate k.l x) (bndHi k.rate k.l x))) ∧ Below w.heap.size w w' := by
  rcases k with ⟨rate, A, n, c, l⟩
  dsimp only at *
  have hszc := Lib.hid size_clk
  have hunc : Hid (Try.prog.underlying 30 = _) := Try.underlying30
  have CB := Lib.hid (fun W (h : ClkM W B ⟨rate, A, n, c, l⟩) => bounds_any _ x W h h0 h1 hok x0 x1)
  dsimp only at CB
  have HG' := Lib.hid HG
  have M := Lib.hid m
  have Hc := Lib.hid hc
  have p0 : ∀ q : ExtOf w.drew, q.world.cell? ⟨bf, 0, none⟩ = some (.func (.func f) #[] cap.toArray) := fun q => (hf.below (q.below (Nat.le_refl _)) hf.lt).cell (j := 0) rfl
  clear HG m hc hok hf
  generalize bndLo rate l x = u at *
  generalize bndHi rate l x = v at *
  go_enter Try.func31, Try.ntmps31
  go_wp2_with fail
  refine wp_region_planM [] [(true, 0), (true, 1), (true, 2), (false, 3), (false, 4), (true, 5)] (by decide) (by kernel_rfl) (by kernel_rfl) (by decide) (by intro c a d v w h; cases d <;> exact h) ?_
  change wpPlanM _ _ _ _ _ _ w.drew
  refine wpPlanM_plain rfl (fun K hK => ?_); go_simp; refine hK _ ?_; clear hK K
  refine wpPlanM_runW rfl (by rfl) _ (fun q => load_run 30 _ rfl bc 0 rfl [.int .i64 rate, .slice A n c] _ hunc.out rfl hszc.out q.world ((Blk.below Hc.out (q.below (Nat.le_refl _)) Hc.out.lt).range 0 _ (take_all0 _))) ?_
  refine wpPlanM_plain rfl (fun K hK => ?_); go_simp; refine hK _ ?_; clear hK K
  clear p0
  have hd0 : Hid (Below w.heap.size w w.drew) := (Below.refl _ _).drew
  refine wpPlanM_call rfl (fun K hK => ?_)
  go_wp2_with fail
  refine (CB.out w.drew (M.out.below hd0.out)).mono ?_
  rintro e w2 ⟨rfl, hb2⟩
  have hb2' := Lib.hid hb2
  have hB2 : Hid (Below w.heap.size w w2) := hd0.out.trans (hb2.mono hd0.out.size)
  clear hb2
  go_wp2_with fail
  refine planPostL_normal ⟨.inr hb2'.out, hK _ _ ?_⟩
  clear hK K
  have CH := HG'.out u v w2 hB2.out
  refine wpPlanM_call rfl (fun K hK => ?_)
  go_wp2_with fail
  refine CH.mono ?_
  rintro e w3 ⟨rfl, hb3⟩
  have hb3' := Lib.hid hb3
  have hB3 : Hid (Below w.heap.size w w3) := hB2.out.trans (hb3.mono hB2.out.size)
  clear hb3 CH
  go_wp2_with fail
  refine planPostL_normal ⟨.inr hb3'.out, hK _ _ ?_⟩
  clear hK K
  refine wpPlanM_plain rfl (fun K hK => ?_); go_simp; refine hK _ ?_; clear hK K
  refine wpPlanM_nil ?_
  go_wp2_with fail
  go_ret
  exact ⟨rfl, hB3.out⟩

set_option maxRecDepth 100000 in
set_option maxHeartbeats 2000000 in
theorem first_any {B : Nat} (f : Nat) (cap : List Value) (P : Int → Int → Bool) (k : Clk) (w : World) (hcf : ∀ (args : Array Value) (W : World), (callFunc f args).run Try.prog W = .ok (.enter f args) W)
    (HG : ∀ a b W, Below w.heap.size w W → Calls Try.prog f ((.agg #[.int .i64 a, .int .i64 b] : Value) :: cap).toArray W fun e W' => e = .returned (.bool (P a b)) ∧ Below W.heap.size W W')
    (hP : ∀ a b a' b', a ≤ a' → b ≤ b' → P a b = true → P a' b' = true) (h1c : (Value.func (.func f) #[] cap.toArray).oneCell' = true)
    (m : ClkM w B k) (h0 : 0 ≤ k.rate) (h1 : k.rate ≤ 100000) (hok : ∀ r ∈ k.l, okR r = true) :
    Calls Try.prog 18 #[.agg #[.int .i64 k.rate, .slice k.A k.n k.c], .func (.func f) #[] cap.toArray] w fun e w' => ∃ i : Nat, e = .returned (.int .i64 i) ∧ SrR (fun j : Nat => P (bndLo k.rate k.l j) (bndHi k.rate k.l j)) 3600000001 i ∧ Below w.heap.size w w' := by
  rcases k with ⟨rate, A, n, c, l⟩
  dsimp only at *
  obtain ⟨W2, hW2⟩ : ∃ W2, W2 = (w.alloc (.cells #[.int .i64 rate, .slice A n c] 30)).alloc (.cells #[.func (.func f) #[] cap.toArray] 62) := ⟨_, rfl⟩
  have E : Hid (Below w.heap.size w W2) := by show Below _ _ _; rw [hW2]; exact ((Below.refl _ _).alloc (Nat.le_refl _) _).alloc (by simp) _
  have X1 : Hid (Blk W2 w.heap.size [.int .i64 rate, .slice A n c] 30) := by show Blk _ _ _ _; rw [hW2]; exact (Blk.new w [_, _] _).alloc _
  have X2 : Hid (Blk W2 (w.heap.size + 1) [.func (.func f) #[] cap.toArray] 62) := by show Blk _ _ _ _; rw [hW2]; exact (Blk.new _ [_] _).at (by simp)
  have M := Lib.hid (m.below E.out)
  have hW2' := Lib.hid hW2
  have hcf1 : ∀ (args : Array Value) (W : World), (callFunc 31 args).run Try.prog W = .ok (.enter 31 args) W := enter_of Try.func31 (by kernel_rfl) (by kernel_rfl)
  have CS := Lib.hid (search14_any 31 [.pointer (some ⟨w.heap.size + 1, 0, none⟩), .pointer (some ⟨w.heap.size, 0, none⟩)] (fun j : Nat => P (bndLo rate l j) (bndHi rate l j)) 3600000001 W2 (by omega) hcf1
    (fun i j hij hi => hP _ _ _ _ (bndLo_mono h0 h1 (by omega)) (bndHi_mono h0 h1 (by omega)) hi)
    (fun h hh W hW => first1_any f cap P ⟨rate, A, n, c, l⟩ (h : Int) (w.heap.size + 1) w.heap.size W hcf (fun a b W' hW' => HG a b W' (E.out.trans ((hW.trans (hW'.mono hW.size)).mono E.out.size))) (M.out.below hW) h0 h1 hok (by omega) (by omega) (X2.out.below hW X2.out.lt) (X1.out.below hW X1.out.lt)))
  clear hW2 HG hP m hok hcf hcf1 X1 X2 M
  have hmf : ∀ (fn : Fn) (first cap : Array Value) (w : World), (Instr.makeFunc fn first cap).run Try.prog w = .ok (.func fn first cap) w := fun _ _ _ _ => rfl
  go_enter Try.func18, Try.ntmps18
  go_wp2_with fail
  generalize hgg : (w.alloc _).alloc _ = Wg
  have hgW : W2 = Wg := by rw [← hgg, hW2'.out]
  clear hgg hW2'
  subst hgW
  refine CS.out.mono ?_
  rintro e w3 ⟨i, rfl, hs, hb⟩
  have hs' := Lib.hid hs
  have E3 := Lib.hid (E.out.trans (hb.mono E.out.size))
  clear hs hb CS
  go_wp2_with fail
  go_ret
  exact ⟨i, rfl, hs'.out, E3.out⟩
end Go.Proofs.Ytbkgbjimooobbaa
