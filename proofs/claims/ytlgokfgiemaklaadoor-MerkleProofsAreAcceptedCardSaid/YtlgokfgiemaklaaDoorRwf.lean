/-
  Contracts of stage 3: the reference's ones and within. Contracts of stage 3: the reference's Formed. Contracts of stage 3: the reference's Ascend.
-/
import Derived.Test.YtlgokfgiemaklaaDoorBmn
import Derived.Test.YtlgokfgiemaklaaDoorMka
import Derived.Deep.QuietTactic
import Derived.BigQuiet
namespace Go.Proofs.YtlgokfgiemaklaaDoor
set_option linter.unusedVariables false
set_option linter.unusedSimpArgs false
open Go.RowKit

/-- How many binary digits are 1. -/
def pop (n : Nat) : Nat := if h : n = 0 then 0 else n % 2 + pop (n / 2)
termination_by n
decreasing_by omega
theorem pop_zero : pop 0 = 0 := by rw [pop]; rfl
theorem pop_pos {n : Nat} (h : 0 < n) : pop n = n % 2 + pop (n / 2) := by rw [pop, dif_neg (by omega)]
theorem pop_le : ∀ N n, n ≤ N → pop n ≤ n
  | 0, n, h => by obtain rfl : n = 0 := by omega
                  rw [pop_zero]; exact Nat.le_refl _
  | N + 1, n, h => by
    by_cases h0 : n = 0
    · subst h0; rw [pop_zero]; exact Nat.le_refl _
    · rw [pop_pos (by omega)]
      have := pop_le N (n / 2) (by omega)
      omega

set_option maxRecDepth 100000 in
set_option maxHeartbeats 1000000 in
theorem ones_any (n : Nat) (w : World) (hn : n ≤ 1125899906842624) : Calls Tryd.prog 78 #[.int .i64 n] w fun e w' => e = .returned (.int .i64 (pop n : Nat)) ∧ w = w' := by
  go_enter Tryd.func78, Tryd.ntmps78
  go_wp2_with fail
  go_loopw [0, 3] (fun x k wr => ∃ m j : Nat, x = .int .i64 m ∧ k = .int .i64 j ∧ m ≤ n ∧ j ≤ n ∧ j + pop m = pop n ∧ w = wr) (fun x _ _ => (intOf x).toNat)
  case atStart => exact ⟨n, 0, rfl, rfl, Nat.le_refl _, by omega, by omega, rfl⟩
  case round =>
    obtain ⟨m, j, rfl, rfl, hm, hj, he0, rfl⟩ := hrel
    have hle := pop_le n n (Nat.le_refl _)
    by_cases hp : 0 < m
    · have t : 0 < (m : Int) := by omega
      have he := Lib.hid he0
      have hst := pop_pos hp
      obtain ⟨r, hr⟩ : ∃ r, r = m % 2 := ⟨_, rfl⟩
      obtain ⟨q, hq⟩ : ∃ q, q = m / 2 := ⟨_, rfl⟩
      rw [← hr, ← hq] at hst
      have e1 : (m : Int) % 2 = (r : Int) := by omega
      have e2 : (m : Int) / 2 = (q : Int) := by omega
      have hnext : Hid (j + r + pop q = pop n ∧ j + r ≤ n ∧ q ≤ n ∧ q < m) := by
        have := he.out
        refine ⟨by omega, by omega, by omega, by omega⟩
      have hb : j + r ≤ 1125899906842624 := by have := hnext.out.2.1; omega
      clear he0 hst hr hq hle
      go_wp2_with fail
      go_roundw
      case rel => exact ⟨q, j + r, by go_num, by go_num, hnext.out.2.2.1, hnext.out.2.1, hnext.out.1, trivial⟩
      case measure => have := hnext.out.2.2.2; simp [intOf]; omega
    · obtain rfl : m = 0 := by omega
      rw [pop_zero, Nat.add_zero] at he0
      have he := Lib.hid he0
      clear he0 hle
      go_wp2_with fail
      go_ret
      exact ⟨by rw [← he.out]; rfl, rfl⟩

theorem infoInt : (Tryd.prog.info? 3).map (fun i => (i.zero, i.size, i.bytes)) = some (some (.int .i64 0), 1, 8) := by kernel_rfl
/-- The integers l are a row of the call's own. -/
def OwnI (w : World) (base : Nat) (v : Value) (l : List Int) : Prop := w.ownsRow base 3 1 v l.length (l.map iv)
theorem ownI_nil (w : World) (base : Nat) : OwnI w base (.slice none 0 0) [] := World.ownsRow_nil w base _ _
theorem push_int {w0 : World} {ops : Array Oper} {rest : List Oper} {o : Oper} {a : Act} {Q : Exit → Act → World → Prop} (hgd : o.guard = none) (s x : Operand)
    (ho : o.op = .call { callee := .builtin .append, args := #[s, x], argTypes := #[37, 37] })
    (base : Nat) (v : Value) (l : List Int) (b : Int) (hs : a.eval s = v) (hx : a.eval x = .slice (some ⟨w0.heap.size, 0, none⟩) 1 1)
    (hown : OwnI w0 base v l) (hlen : l.length ≤ 1000000000000) (hbase : base ≤ w0.heap.size)
    (h : ∀ v' w', OwnI w' base v' (l ++ [b]) → Below base w0 w' → wpList Tryd.prog ops Q rest (a.put o.dst v') w') :
    wpList Tryd.prog ops Q (o :: rest) a (w0.alloc (.cells #[.int .i64 b] 3)) := by
  obtain ⟨i0, hi, hz0, hz1, hz2⟩ := info_parts infoInt
  refine wpList_push hgd s x 37 ho base 3 i0 (.int .i64 0) 8 Tryd.underlying37 hi hz0 hz1 hz2 rfl v l.length (l.map iv) (iv b) hs hx rfl hown (by omega) (by unfold maxLen; omega) hbase ?_
  intro v' w' h1 h2
  exact h v' w' (by unfold OwnI; simpa using h1) (h2.below hown hbase)

/-- The places from f on, before t. -/
def wth (f t : Int) (ps : List Int) : List Int := ps.filter fun p => decide (f ≤ p) && decide (p < t)
theorem wth_len (f t : Int) (ps : List Int) : (wth f t ps).length ≤ ps.length := List.length_filter_le ..
theorem wth_next {ps : List Int} {k : Nat} {p : Int} (h : ps[k]? = some p) (f t : Int) : wth f t (ps.take (k + 1)) = wth f t (ps.take k) ++ (if f ≤ p ∧ p < t then [p] else []) := by
  obtain ⟨h1, h2⟩ := List.getElem?_eq_some_iff.1 h
  rw [List.take_succ_eq_append_getElem h1, h2]
  unfold wth
  rw [List.filter_append]
  congr 1
  by_cases hc : f ≤ p ∧ p < t
  · rw [if_pos hc]; simp [hc.1, hc.2]
  · rw [if_neg hc]
    simp only [List.filter_cons, List.filter_nil]
    rw [if_neg (by simpa using hc)]

set_option maxRecDepth 100000 in
set_option maxHeartbeats 1000000 in
theorem within_any {B : Nat} (ps : List Int) (f t : Int) (A : Option Addr) (c : Nat) (w : World) (hr : Rds w B A (ps.map iv)) (hB : B ≤ w.heap.size) (hl : ps.length ≤ 1000000) :
    Calls Tryd.prog 70 #[.slice A ps.length c, .int .i64 f, .int .i64 t] w fun e w' => ∃ v, (e = .returned v ∧ OwnI w' w.heap.size v (wth f t ps)) ∧ Below w.heap.size w w' := by
  go_enter Tryd.func70, Tryd.ntmps70
  go_wp2_with fail
  go_loopw [7, 8] (fun v i wr => ∃ k : Nat, k ≤ ps.length ∧ i = .int .i64 k ∧ OwnI wr w.heap.size v (wth f t (ps.take k)) ∧ Below w.heap.size w wr) (fun _ i _ => ps.length - (intOf i).toNat)
  case atStart => exact ⟨0, by omega, rfl, ownI_nil _ _, Below.refl _ _⟩
  case round =>
    obtain ⟨k, hk, rfl, ho, hbw⟩ := hrel
    have hsz := hbw.size
    by_cases hlt : k < ps.length
    · obtain ⟨p, hp⟩ : ∃ p, ps[k]? = some p := ⟨_, List.getElem?_eq_getElem hlt⟩
      obtain ⟨ad, rfl, hab, hcell⟩ := (hr.below (hbw.mono hB)).look (k := k) (u := .int .i64 p) (by rw [List.getElem?_map, hp]; rfl)
      have hnx := Lib.hid (wth_next hp f t)
      have hwl : (wth f t (ps.take k)).length ≤ 1000000000000 := by have := wth_len f t (ps.take k); rw [List.length_take] at this; omega
      have tk : (k : Int) < (ps.length : Int) := by omega
      clear hp
      by_cases h1 : f ≤ p
      · by_cases h2 : p < t
        · have hn : Hid (wth f t (ps.take (k + 1)) = wth f t (ps.take k) ++ [p]) := by show _ = _; rw [hnx.out, if_pos ⟨h1, h2⟩]
          go_wp2_with (at_builtin; go_must (refine push_int rfl _ _ rfl w.heap.size u7 (wth f t (ps.take k)) p rfl rfl ho hwl hsz ?_); intro v' w1 ho1 hb1)
          go_roundw
          case rel => exact ⟨k + 1, by omega, by go_num, by rw [hn.out]; exact ho1, hbw.trans hb1⟩
          case measure => simp [intOf]; omega
        · have hn : Hid (wth f t (ps.take (k + 1)) = wth f t (ps.take k)) := by show _ = _; rw [hnx.out, if_neg (fun h => h2 h.2), List.append_nil]
          go_wp2_with fail
          go_roundw
          case rel => exact ⟨k + 1, by omega, by go_num, by rw [hn.out]; exact ho, hbw⟩
          case measure => simp [intOf]; omega
      · have hn : Hid (wth f t (ps.take (k + 1)) = wth f t (ps.take k)) := by show _ = _; rw [hnx.out, if_neg (fun h => h1 h.1), List.append_nil]
        go_wp2_with fail
        go_roundw
        case rel => exact ⟨k + 1, by omega, by go_num, by rw [hn.out]; exact ho, hbw⟩
        case measure => simp [intOf]; omega
    · have tk : ¬ (k : Int) < (ps.length : Int) := by omega
      rw [List.take_of_length_le (by omega)] at ho
      go_wp2_with fail
      go_ret
      exact ⟨⟨_, rfl, ho⟩, hbw⟩
end Go.Proofs.YtlgokfgiemaklaaDoor

namespace Go.Proofs.YtlgokfgiemaklaaDoor
set_option linter.unusedVariables false
set_option linter.unusedSimpArgs false
open Go.RowKit

/-- Peaks as a value. -/
def pkv (s : Int) (A : Option Addr) (n c : Nat) : Value := .agg #[.int .i64 s, .slice A n c]
/-- Are peaks of size s with n tops well-formed? -/
def pkOk (s : Int) (n : Nat) : Bool := decide (0 ≤ s) && (decide (s ≤ 1099511627776) && ((n : Int) == ((pop s.toNat : Nat) : Int)))

set_option maxRecDepth 100000 in
set_option maxHeartbeats 2000000 in
theorem formed_any (s : Int) (A : Option Addr) (n c : Nat) (w : World) :
    Calls Tryd.prog 55 #[pkv s A n c] w fun e w' => e = .returned (.bool (pkOk s n)) ∧ Below w.heap.size w w' := by
  obtain ⟨W1, hW1⟩ : ∃ W1, W1 = w.alloc (.cells #[.int .i64 s, .slice A n c] 43) := ⟨_, rfl⟩
  have hB1 : Hid (Below w.heap.size w W1.drew) := by show Below _ _ _; rw [hW1]; exact ((Below.refl _ _).alloc (Nat.le_refl _) _).drew
  have hK1 : Blk W1 w.heap.size [.int .i64 s, .slice A n c] 43 := by rw [hW1]; exact Blk.new _ [_, _] _
  have q1 : ∀ x : ExtOf W1.drew, x.world.cell? ⟨w.heap.size, 0, none⟩ = some (.int .i64 s) := fun x => (hK1.drew.below x.ext hK1.drew.lt).cell rfl
  have q2 : ∀ x : ExtOf W1.drew, x.world.cell? ⟨w.heap.size, 1, none⟩ = some (.slice A n c) := fun x => (hK1.drew.below x.ext hK1.drew.lt).cell rfl
  have hW1' := Lib.hid hW1
  clear hW1 hK1
  unfold pkv
  by_cases h0 : 0 ≤ s
  · obtain ⟨z, rfl⟩ := Int.eq_ofNat_of_zero_le h0
    by_cases h1 : (z : Int) ≤ 1099511627776
    · have hr : Hid (pkOk z n = ((n : Int) == ((pop z : Nat) : Int))) := by
        show _ = _
        unfold pkOk
        rw [decide_eq_true h0, decide_eq_true h1]
        simp
      have HO := Lib.hid (fun W => ones_any z W (by omega))
      generalize pop z = Z at HO hr
      have b1 : decide ((z : Int) ≤ 1099511627776) = true := decide_eq_true h1
      have b0 : decide (0 ≤ (z : Int)) = true := decide_eq_true h0
      clear h0
      go_enter Tryd.func55, Tryd.ntmps55
      go_wp2_with fail
      generalize hg : w.alloc _ = Wg
      have hgW : W1 = Wg := by rw [← hg, hW1'.out]
      clear hg hW1'
      subst hgW
      refine wp_region_planL 99 [(true, 0), (true, 1), (true, 2), (true, 3), (true, 4), (true, 5), (true, 6), (true, 7), (true, 8), (true, 9), (true, 10), (true, 11), (true, 12), (true, 13), (false, 14), (true, 15), (true, 16), (true, 17)] (by kernel_rfl) (by decide) (by kernel_rfl) (by kernel_rfl) (by kernel_rfl) (by decide) (by intro c a d v w h; cases d <;> exact h) ?_
      change wpPlanL _ _ _ _ _ _ W1.drew
      iterate 14 (refine wpPlanL_plain rfl (fun K hK => ?_); go_simp; refine hK _ ?_; clear hK K)
      refine wpPlanL_call rfl (fun K hK => ?_)
      go_wp2_with fail
      refine (HO.out _).mono ?_
      rintro e w2 ⟨rfl, rfl⟩
      go_wp2_with fail
      refine planPostL_normal ⟨.inr (Below.refl _ _), hK _ _ ?_⟩
      clear hK K
      iterate 3 (refine wpPlanL_plain rfl (fun K hK => ?_); go_simp; refine hK _ ?_; clear hK K)
      refine wpPlanL_nil ?_
      go_wp2_with fail
      go_ret
      exact ⟨by rw [hr.out]; rfl, hB1.out⟩
    · have hr : Hid (pkOk z n = false) := by
        show _ = _
        unfold pkOk
        rw [decide_eq_true h0, decide_eq_false h1]
        rfl
      have b0 : decide (0 ≤ (z : Int)) = true := decide_eq_true h0
      have b1 : decide ((z : Int) ≤ 1099511627776) = false := decide_eq_false h1
      clear h0 h1
      go_enter Tryd.func55, Tryd.ntmps55
      go_wp2_with fail
      generalize hg : w.alloc _ = Wg
      have hgW : W1 = Wg := by rw [← hg, hW1'.out]
      clear hg hW1'
      subst hgW
      refine wp_region_planL 99 [(true, 0), (true, 1), (true, 2), (true, 3), (true, 4), (true, 5), (true, 6), (true, 7), (true, 8), (true, 9), (true, 10), (true, 11), (true, 12), (true, 13), (false, 14), (true, 15), (true, 16), (true, 17)] (by kernel_rfl) (by decide) (by kernel_rfl) (by kernel_rfl) (by kernel_rfl) (by decide) (by intro c a d v w h; cases d <;> exact h) ?_
      change wpPlanL _ _ _ _ _ _ W1.drew
      iterate 14 (refine wpPlanL_plain rfl (fun K hK => ?_); go_simp; refine hK _ ?_; clear hK K)
      refine wpPlanL_call rfl (fun K hK => ?_)
      go_wp2_with fail
      refine planPostL_normal ⟨.inr (Below.refl _ _), hK _ _ ?_⟩
      clear hK K
      iterate 3 (refine wpPlanL_plain rfl (fun K hK => ?_); go_simp; refine hK _ ?_; clear hK K)
      refine wpPlanL_nil ?_
      go_wp2_with fail
      go_ret
      exact ⟨by rw [hr.out]; rfl, hB1.out⟩
  · have hr : Hid (pkOk s n = false) := by
      show _ = _
      unfold pkOk
      rw [decide_eq_false h0]
      rfl
    have b0 : decide (0 ≤ s) = false := decide_eq_false h0
    clear h0
    go_enter Tryd.func55, Tryd.ntmps55
    go_wp2_with fail
    generalize hg : w.alloc _ = Wg
    have hgW : W1 = Wg := by rw [← hg, hW1'.out]
    clear hg hW1'
    subst hgW
    refine wp_region_planL 99 [(true, 0), (true, 1), (true, 2), (true, 3), (true, 4), (true, 5), (true, 6), (true, 7), (true, 8), (true, 9), (true, 10), (true, 11), (true, 12), (true, 13), (false, 14), (true, 15), (true, 16), (true, 17)] (by kernel_rfl) (by decide) (by kernel_rfl) (by kernel_rfl) (by kernel_rfl) (by decide) (by intro c a d v w h; cases d <;> exact h) ?_
    change wpPlanL _ _ _ _ _ _ W1.drew
    iterate 14 (refine wpPlanL_plain rfl (fun K hK => ?_); go_simp; refine hK _ ?_; clear hK K)
    refine wpPlanL_call rfl (fun K hK => ?_)
    go_wp2_with fail
    refine planPostL_normal ⟨.inr (Below.refl _ _), hK _ _ ?_⟩
    clear hK K
    iterate 3 (refine wpPlanL_plain rfl (fun K hK => ?_); go_simp; refine hK _ ?_; clear hK K)
    refine wpPlanL_nil ?_
    go_wp2_with fail
    go_ret
    exact ⟨by rw [hr.out]; rfl, hB1.out⟩
end Go.Proofs.YtlgokfgiemaklaaDoor

namespace Go.Proofs.YtlgokfgiemaklaaDoor
set_option linter.unusedVariables false
set_option linter.unusedSimpArgs false
open Go.RowKit

theorem w64 {n : Int} (h : -9223372036854775808 ≤ n ∧ n ≤ 9223372036854775807) : wrap64 n = n := IntWalk.wrap64_in n h
set_option maxRecDepth 100000 in
set_option maxHeartbeats 4000000 in
theorem ascend_any {B : Nat} (ps : List Int) (n : Int) (A : Option Addr) (c : Nat) (w : World) (hr : Rds w B A (ps.map iv)) (hl : ps.length ≤ 1000000) (hf : ∀ p ∈ ps, Wm.Fits p) :
    Calls Tryd.prog 44 #[.slice A ps.length c, .int .i64 n] w fun e w' => e = .returned (.bool (ascGo n 0 ps)) ∧ ∃ m, w' = w.drewN m := by
  obtain ⟨r, hr0⟩ : ∃ r, r = ascGo n 0 ps := ⟨_, rfl⟩
  have hR := Lib.hid hr0
  rw [← hr0]
  have hF := Lib.hid hf
  clear hr0 hf
  go_enter Tryd.func44, Tryd.ntmps44
  go_wp2_with fail
  go_loopw [5] (fun i wr => ∃ (k m : Nat) (l : Int), k ≤ ps.length ∧ i = .int .i64 k ∧ 0 ≤ l ∧ Hid (k = 0 → l = 0) ∧ Hid (∀ j q, k = j + 1 → ps[j]? = some q → l = q + 1) ∧ ascGo n l (ps.drop k) = r ∧ wr = w.drewN m) (fun i _ => ps.length - (intOf i).toNat)
  case atStart => exact ⟨0, 0, 0, by omega, rfl, by omega, fun _ => rfl, fun j q h => by omega, hR.out.symm, rfl⟩
  case round =>
    obtain ⟨k, m, l, hk, rfl, hl0, hz, hs, hg0, rfl⟩ := hrel
    have hg := Lib.hid hg0
    clear hg0
    by_cases hlt : k < ps.length
    · obtain ⟨p, hp⟩ : ∃ p, ps[k]? = some p := ⟨_, List.getElem?_eq_getElem hlt⟩
      obtain ⟨ad, rfl, hab, hcell⟩ := hr.look (k := k) (u := .int .i64 p) (by rw [List.getElem?_map, hp]; rfl)
      have hdr : ps.drop k = p :: ps.drop (k + 1) := by
        rw [List.drop_eq_getElem_cons hlt, (List.getElem?_eq_some_iff.1 hp).2]
      have t : (k : Int) < (ps.length : Int) := by omega
      have t' : 0 ≤ (k : Int) := by omega
      rw [hdr] at hg
      have hp' := Lib.hid hp
      clear hdr hp
      by_cases h1 : p < 0
      · have hf : Hid (r = false) := by show _ = _; rw [← hg.out]; unfold ascGo; rw [if_pos (.inl (by omega))]
        have b1 : decide (p < 0) = true := decide_eq_true h1
        go_wp2_with fail
        go_quiet (fail)
        go_wp2
        go_ret
        exact ⟨by rw [hf.out]; rfl, _, by first | (go_simp; done) | (go_simp; rfl)⟩
      · by_cases h2 : n ≤ p
        · have hf : Hid (r = false) := by show _ = _; rw [← hg.out]; unfold ascGo; rw [if_pos (.inr h2)]
          have b1 : decide (p < 0) = false := decide_eq_false h1
          go_wp2_with fail
          go_quiet (fail)
          go_wp2
          go_ret
          exact ⟨by rw [hf.out]; rfl, _, by first | (go_simp; done) | (go_simp; rfl)⟩
        · have h2' : ¬ n ≤ p := h2
          have b1 : decide (p < 0) = false := decide_eq_false h1
          have b2 : decide (n ≤ p) = false := decide_eq_false h2
          by_cases hk0 : k = 0
          · have hn : Hid (ascGo n (p + 1) (ps.drop (k + 1)) = r) := by
              show _ = _
              rw [← hg.out]
              conv => rhs; unfold ascGo
              rw [if_neg (by have := hz.out hk0; omega)]
            have hnext : Hid (∀ j q, k + 1 = j + 1 → ps[j]? = some q → p + 1 = q + 1) := fun j q hj hq => by
              obtain rfl : j = k := by omega
              rw [hp'.out] at hq
              rw [Option.some.inj hq]
            have t0 : ¬ 0 < (k : Int) := by omega
            have b3 : decide (0 < (k : Int)) = false := decide_eq_false t0
            have b3' : decide (0 < k) = false := decide_eq_false (by omega)
            have hp0 : 0 ≤ p + 1 := by omega
            clear hg hz hs hk0
            go_wp2_with fail
            go_quiet (fail)
            go_wp2
            go_roundw
            case rel => exact ⟨k + 1, _, p + 1, by omega, by go_num, hp0, (fun h => by omega), hnext.out, hn.out, by first | rfl | (go_simp; done) | (go_simp; rfl)⟩
            case measure => simp [intOf]; omega
          · obtain ⟨j, hj0⟩ : ∃ j, k = j + 1 := ⟨k - 1, by omega⟩
            obtain ⟨q, hq⟩ : ∃ q, ps[j]? = some q := ⟨_, List.getElem?_eq_getElem (by omega)⟩
            have hlq := hs.out j q hj0 hq
            obtain ⟨ad2, hade, _, hcell2⟩ := hr.look (k := j) (u := .int .i64 q) (by rw [List.getElem?_map, hq]; rfl)
            obtain rfl := Option.some.inj hade
            have t0 : 0 < (k : Int) := by omega
            have e5 : wrap64 ((k : Int) - 1) = (j : Int) := by rw [w64 (by omega)]; omega
            have e6 : (k : Int) - 1 = (j : Int) := by omega
            have hj := Lib.hid hj0
            have t2 : (j : Int) < (ps.length : Int) := by omega
            have t3 : 0 ≤ (j : Int) := by omega
            have t4 : j < ps.length := by omega
            have b3 : decide (0 < (k : Int)) = true := decide_eq_true t0
            have b3' : decide (0 < k) = true := decide_eq_true (by omega)
            by_cases h3 : p ≤ q
            · have hf : Hid (r = false) := by show _ = _; rw [← hg.out]; unfold ascGo; rw [if_pos (.inl (by omega))]
              have b4 : decide (p ≤ q) = true := decide_eq_true h3
              clear hg hz hs hk0 hq hlq hj0
              go_wp2_with fail
              go_quiet (fail)
              go_wp2
              go_ret
              exact ⟨by rw [hf.out]; rfl, _, by first | (go_simp; done) | (go_simp; rfl)⟩
            · have hn : Hid (ascGo n (p + 1) (ps.drop (k + 1)) = r) := by
                show _ = _
                rw [← hg.out]
                conv => rhs; unfold ascGo
                rw [if_neg (by omega)]
              have hnext : Hid (∀ i q, k + 1 = i + 1 → ps[i]? = some q → p + 1 = q + 1) := fun i q hi hq => by
                obtain rfl : i = k := by omega
                rw [hp'.out] at hq
                rw [Option.some.inj hq]
              have hp0 : 0 ≤ p + 1 := by omega
              have b4 : decide (p ≤ q) = false := decide_eq_false h3
              clear hg hz hs hk0 hq hlq hj0
              go_wp2_with fail
              go_quiet (fail)
              go_wp2
              go_roundw
              case rel => exact ⟨k + 1, _, p + 1, by omega, by go_num, hp0, (fun h => by omega), hnext.out, hn.out, by first | rfl | (go_simp; done) | (go_simp; rfl)⟩
              case measure => simp [intOf]; omega
    · have t : ¬ (k : Int) < (ps.length : Int) := by omega
      have hf : Hid (r = true) := by
        show _ = _
        rw [← hg.out, List.drop_eq_nil_of_le (by omega)]
        rfl
      go_wp2_with fail
      go_ret
      exact ⟨by rw [hf.out]; rfl, m, rfl⟩
end Go.Proofs.YtlgokfgiemaklaaDoor
