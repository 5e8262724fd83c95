/-
  Contracts of stage 2: lists compared, inputs, digests that clash.
-/
import Derived.Test.YtedhjjlnionckaaDoorFew
import Derived.Deep.QuietTactic
import Derived.BigQuiet
import Derived.ChangeKeysEq
import Derived.Laws.StructEq
namespace Go.Proofs.YtedhjjlnionckaaDoor
set_option linter.unusedVariables false
open Go.RowKit

theorem take_eq_snoc {α : Type} {la lb : List α} {k : Nat} {x : α} (ha : la[k]? = some x) (hb : lb[k]? = some x) (h : la.take k = lb.take k) : la.take (k + 1) = lb.take (k + 1) := by
  obtain ⟨h1, e1⟩ := List.getElem?_eq_some_iff.1 ha
  obtain ⟨h2, e2⟩ := List.getElem?_eq_some_iff.1 hb
  rw [List.take_succ_eq_append_getElem h1, List.take_succ_eq_append_getElem h2, h, e1, e2]

set_option maxRecDepth 100000 in
set_option maxHeartbeats 1000000 in
theorem same02_any {B B' : Nat} (la lb : List (List UInt8)) (A A' : Option Addr) (c c' : Nat) (w : World) (ha : Rds w B A (la.map sv)) (hb : Rds w B' A' (lb.map sv)) (hl : la.length ≤ 1000000000000) :
    Calls Tryd.prog 24 #[.slice A la.length c, .slice A' lb.length c'] w (BoolEnd (la == lb) w) := by
  by_cases hlen : la.length = lb.length
  · have t : ((la.length : Int) != (lb.length : Int)) = false := by simp; omega
    have HL := Lib.hid hlen
    have hle : lb.length ≤ la.length := by omega
    have hge : la.length ≤ lb.length := by omega
    clear hlen
    go_enter Tryd.func24, Tryd.ntmps24
    go_wp2
    go_loopw [5] (fun i wr => ∃ k n : Nat, k ≤ la.length ∧ i = .int .i64 k ∧ wr = w.drewN n ∧ la.take k = lb.take k) (fun i _ => la.length - (intOf i).toNat)
    case atStart => exact ⟨0, 0, by omega, rfl, rfl, rfl⟩
    case round =>
      obtain ⟨k, n, hk, rfl, rfl, heq0⟩ := hrel
      have heq := Lib.hid heq0
      clear heq0
      by_cases hlt : k < la.length
      · have hlt2 : k < lb.length := by omega
        have g1 : la[k]? = some la[k] := List.getElem?_eq_getElem hlt
        have g2 : lb[k]? = some lb[k] := List.getElem?_eq_getElem hlt2
        obtain ⟨ad, rfl, _, hca⟩ := ha.look (k := k) (u := sv la[k]) (by simp [hlt])
        obtain ⟨bd, rfl, _, hcb⟩ := hb.look (k := k) (u := sv lb[k]) (by simp [hlt2])
        have G1 := Lib.hid g1
        have G2 := Lib.hid g2
        clear g1 g2
        have s1 := bs_toList la[k]
        have s2 := bs_toList lb[k]
        unfold sv at hca hcb
        generalize la[k] = x at hca G1 s1
        generalize lb[k] = y at hcb G2 s2
        generalize bs x = X at hca s1
        generalize bs y = Y at hcb s2
        have S1 := Lib.hid s1
        have S2 := Lib.hid s2
        clear s1 s2
        have b1 : 0 ≤ (k : Int) := by omega
        have b2 : (k : Int) < (la.length : Int) := by omega
        have b3 : (k : Int) < (lb.length : Int) := by omega
        by_cases hxy : x = y
        · have t1 : (X.toList == Y.toList) = true := by rw [S1.out, S2.out]; simp [hxy]
          have hn := Lib.hid (take_eq_snoc G1.out (by rw [hxy]; exact G2.out) heq.out)
          clear hxy
          go_wp2
          go_quiet (fail)
          go_wp2
          go_roundw
          case rel => exact ⟨k + 1, _, by omega, by go_num, by go_simp; rfl, hn.out⟩
          case measure => simp [intOf]; omega
        · have t1 : (X.toList == Y.toList) = false := by rw [S1.out, S2.out]; simp [hxy]
          have hne : Hid ((la == lb) = false) := by
            show _ = _
            rw [beq_eq_false_iff_ne]
            rintro rfl
            have := G1.out.symm.trans G2.out
            injection this with this
            exact hxy this
          clear hxy
          go_wp2
          go_quiet (fail)
          go_wp2
          go_ret
          exact ⟨by rw [hne.out]; rfl, _, by go_simp; rfl⟩
      · have hE : Hid ((la == lb) = true) := by
          show _ = _
          rw [beq_iff_eq]
          have := heq.out
          rwa [List.take_of_length_le (by omega), List.take_of_length_le (by omega)] at this
        go_wp2
        go_ret
        exact ⟨by rw [hE.out]; rfl, n, rfl⟩
  · have t : ((la.length : Int) != (lb.length : Int)) = true := by simp; omega
    have hne : Hid ((la == lb) = false) := by
      show _ = _
      rw [beq_eq_false_iff_ne]
      rintro rfl
      exact hlen rfl
    clear hlen
    go_enter Tryd.func24, Tryd.ntmps24
    go_wp2
    go_ret
    exact ⟨by rw [hne.out]; rfl, 0, rfl⟩

set_option maxRecDepth 100000 in
set_option maxHeartbeats 1000000 in
theorem input_any (tag : Int) (parts : List (List UInt8)) (A : Option Addr) (c : Nat) (w : World) (hr : Rds w w.heap.size A (parts.map sv)) (hl : parts.length ≤ 1000000) (hf : (Sha.message parts).length ≤ 1000000000) :
    Calls Tryd.prog 64 #[.int .i64 tag, .slice A parts.length c] w (NewEnd (Sha.input tag parts) w) := by
  obtain ⟨b, hb⟩ : ∃ b, b = UInt8.ofNat (tag % 256).toNat := ⟨_, rfl⟩
  have hin : Sha.input tag parts = [b] ++ parts.flatMap Wm.encBytes := by rw [hb]; rfl
  have hbn : b.toNat = (tag % 256).toNat := by rw [hb]; exact Wm.toNat_ofNat (by omega)
  have ew : IntKind.u8.wrap tag = (b.toNat : Int) := by rw [IntKind.wrap_u8, hbn]; omega
  rw [hin]
  have hF : Hid ((parts.flatMap Wm.encBytes).length ≤ 1000000000) := hf
  have hown : Hid (OwnB (w.alloc (.cells #[.int .u8 (b.toNat : Int)] 5)) w.heap.size (.slice (some ⟨w.heap.size, 0, none⟩) 1 1) [b]) :=
    ⟨by simp, .inr ⟨w.heap.size, 1, #[.int .u8 (b.toNat : Int)], rfl, Nat.le_refl _, heap_alloc_new w _, Nat.le_refl 1, by unfold maxLen; omega, rfl, rfl⟩⟩
  obtain ⟨W1, hW1⟩ : ∃ W1, W1 = w.alloc (.cells #[.int .u8 (b.toNat : Int)] 5) := ⟨_, rfl⟩
  have hB1 : Below w.heap.size w W1 := by rw [hW1]; exact (Below.refl _ _).alloc (Nat.le_refl _) _
  rw [← hW1] at hown
  clear hf hin hbn hb
  go_enter Tryd.func64, Tryd.ntmps64
  go_wp2_with fail
  rw [← hW1]
  clear hW1
  go_loopw [5, 6] (fun b' i wr => ∃ k : Nat, k ≤ parts.length ∧ i = .int .i64 k ∧ OwnB wr w.heap.size b' ([b] ++ (parts.take k).flatMap Wm.encBytes) ∧ Below w.heap.size w wr) (fun _ i _ => parts.length - (intOf i).toNat)
  case atStart => exact ⟨0, by omega, rfl, by simpa using hown.out, hB1⟩
  case round =>
    obtain ⟨k, hk, rfl, ho, hbw⟩ := hrel
    have hsz := hbw.size
    by_cases hlt : k < parts.length
    · obtain ⟨ad, rfl, hab, hcell⟩ := (hr.below hbw).look (k := k) (u := sv parts[k]) (by simp [hlt])
      have hfl := Wm.flat_take_len Wm.encBytes parts k
      have hfl1 := Wm.flat_take_len Wm.encBytes parts (k + 1)
      have hff := hF.out
      rw [Wm.take_flat Wm.encBytes parts k parts[k] (List.getElem?_eq_getElem hlt), List.length_append] at hfl1
      have hle : parts[k].length ≤ (Wm.encBytes parts[k]).length := by simp [Wm.encBytes]
      have htf := Lib.hid (Wm.take_flat Wm.encBytes parts k parts[k] (List.getElem?_eq_getElem hlt))
      have HA := Lib.hid (refBytes_any parts[k] wr (by omega))
      unfold sv at hcell HA
      generalize bs parts[k] = S at hcell HA
      go_wp2_with fail
      refine HA.out.mono ?_
      intro e w2 h2'
      obtain ⟨A2, c2, rfl, _, _, hn2, hr2, hb2⟩ := NewEnd.slice h2'
      clear h2'
      have ho2 : OwnB w2 w.heap.size u5 _ := own_below ho hb2
      have hsz2 := hb2.size
      go_wp2_with (at_builtin; go_must (refine push_bytes rfl _ _ rfl w.heap.size u5 _ _ _ A2 _ c2 rfl hn2 rfl rfl hr2 ho2 (by simp only [List.length_append, List.length_singleton]; omega) (by omega) ?_); intro v3 w3 ho3 hb3)
      go_roundw
      case rel => exact ⟨k + 1, by omega, by go_num, by rw [htf.out, ← List.append_assoc]; exact ho3, hbw.trans ((hb2.mono hsz).trans hb3)⟩
      case measure => simp [intOf]; omega
    · go_wp2
      go_ret
      refine ⟨_, rfl, ?_, hbw⟩
      rw [List.take_of_length_le (by omega)] at ho
      exact ho

set_option maxRecDepth 100000 in
set_option maxHeartbeats 1000000 in
theorem clash_any (a b : List UInt8) (w : World) (ha : a.length = 32) (hb : b.length = 32) :
    Calls Tryd.prog 26 #[av a, av b] w fun e w' => e = .returned (.bool (a.take 16 == b.take 16)) ∧ Below w.heap.size w w' := by
  have HA := Lib.hid ha
  have HB := Lib.hid hb
  obtain ⟨W1, hW1⟩ : ∃ W1, W1 = w.alloc (.cells (a.map bv).toArray 24) := ⟨_, rfl⟩
  obtain ⟨W2, hW2⟩ : ∃ W2, W2 = W1.alloc (.cells (b.map bv).toArray 24) := ⟨_, rfl⟩
  have hB1 : Below w.heap.size w W1 := by rw [hW1]; exact (Below.refl _ _).alloc (Nat.le_refl _) _
  have hB12 : Below W1.heap.size W1 W2 := by rw [hW2]; exact (Below.refl _ _).alloc (Nat.le_refl _) _
  have hK1 : Blk W1 w.heap.size (a.map bv) 24 := by rw [hW1]; exact Blk.new _ _ _
  have hKA := Lib.hid (hK1.below hB12 hK1.lt)
  have hKB : Hid (Blk W2 W1.heap.size (b.map bv) 24) := by show Blk _ _ _ _; rw [hW2]; exact Blk.new _ _ _
  have hB2 := Lib.hid (hB1.trans (hB12.mono hB1.size))
  clear ha hb hK1 hB12
  unfold av
  go_enter Tryd.func26, Tryd.ntmps26
  go_wp2_with fail
  try rw [← hW1]
  try rw [← hW2]
  have hs1 : W1.heap.size = w.heap.size + 1 := by rw [hW1]; simp
  clear hW1 hW2
  go_loopw [5] (fun i wr => ∃ k n : Nat, k ≤ 16 ∧ i = .int .i64 k ∧ wr = W2.drewN n ∧ a.take k = b.take k) (fun i _ => 16 - (intOf i).toNat)
  case atStart => exact ⟨0, 0, by omega, rfl, rfl, rfl⟩
  case round =>
    obtain ⟨k, n, hk, rfl, rfl, heq0⟩ := hrel
    have heq := Lib.hid heq0
    clear heq0
    by_cases hlt : k < 16
    · obtain ⟨x, hx⟩ : ∃ x, a[k]? = some x := ⟨_, List.getElem?_eq_getElem (by rw [HA.out]; omega)⟩
      obtain ⟨y, hy⟩ : ∃ y, b[k]? = some y := ⟨_, List.getElem?_eq_getElem (by rw [HB.out]; omega)⟩
      have hca : W2.cell? ⟨w.heap.size, k, none⟩ = some (.int .u8 (x.toNat : Int)) := hKA.out.cell (by rw [List.getElem?_map, hx]; rfl)
      have hcb : W2.cell? ⟨w.heap.size + 1, k, none⟩ = some (.int .u8 (y.toNat : Int)) := by rw [← hs1]; exact hKB.out.cell (by rw [List.getElem?_map, hy]; rfl)
      have G1 := Lib.hid hx
      have G2 := Lib.hid hy
      clear hx hy
      have b1 : 0 ≤ (k : Int) := by omega
      have b2 : (k : Int) < 32 := by omega
      by_cases hxy : x = y
      · subst hxy
        have hn := Lib.hid (take_eq_snoc G1.out G2.out heq.out)
        go_wp2
        go_quiet (fail)
        go_wp2
        go_roundw
        case rel => exact ⟨k + 1, _, by omega, by go_num, by go_simp; rfl, hn.out⟩
        case measure => simp [intOf]; omega
      · have t1 : ((x.toNat : Int) != (y.toNat : Int)) = true := by
          simp only [bne_iff_ne, ne_eq]
          intro h
          exact hxy (UInt8.toNat_inj.1 (by omega))
        have hne : Hid ((a.take 16 == b.take 16) = false) := by
          show _ = _
          rw [beq_eq_false_iff_ne]
          intro h
          have h1 : (a.take 16)[k]? = some x := by rw [List.getElem?_take_of_lt hlt]; exact G1.out
          have h2 : (b.take 16)[k]? = some y := by rw [List.getElem?_take_of_lt hlt]; exact G2.out
          rw [h, h2] at h1
          injection h1 with h1
          exact hxy h1.symm
        go_wp2
        go_quiet (fail)
        go_wp2
        go_ret
        exact ⟨by rw [hne.out]; rfl, below_drewN (below_drewN hB2.out _) _⟩
    · have hE : Hid ((a.take 16 == b.take 16) = true) := by
        show _ = _
        rw [beq_iff_eq]
        have hk16 : k = 16 := by omega
        rw [← hk16]
        exact heq.out
      go_wp2
      go_ret
      exact ⟨by rw [hE.out]; rfl, below_drewN hB2.out _⟩
end Go.Proofs.YtedhjjlnionckaaDoor
