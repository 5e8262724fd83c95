/-
  Stage 10 (domain): slices.ContainsFunc over integers and racks; Check.
-/
import Derived.Test.YtelcaddgkjkegaaDmb
import Derived.Test.YtelcaddgkjkegaaMch
namespace Go.Proofs.Ytelcaddgkjkegaa
set_option linter.unusedVariables false
set_option linter.unusedSimpArgs false
open Go.RowKit

section
variable {P : Program} {ops : Array Oper} {rest : List Oper} {op : Oper} {a : Act} {w : World} {Q : Exit → Act → World → Prop}
/-- A whole struct is loaded, from any address. -/
theorem wpList_load_str (hgd : op.guard = none) (ty : TypeId) (x : Operand) (ho : op.op = .load ty x)
    (ad : Addr) (hx : a.eval x = .pointer (some ad)) (cs : List Value) (d : TypeDesc) (hc : ∀ j v, cs[j]? = some v → w.cell? (ad.add j) = some v)
    (hu : P.underlying ty = some d) (hd : d.isRow = true) (hi : (P.info? ty).map (·.size) = some cs.length)
    (h : wpList P ops Q rest (a.put op.dst (.agg cs.toArray)) w) : wpList P ops Q (op :: rest) a w := by
  refine wpList_plain hgd fun K hK => ?_
  have hl : (loadCells ad cs.length).run P w = .ok cs.toArray w := run_loadCells_list (P := P) w ad cs hc
  have hv : (loadVar ty ad).run P w = .ok (.agg cs.toArray) w := by
    cases hq : P.info? ty with
    | none => simp [hq] at hi
    | some i =>
      have hs : i.size = cs.length := by simpa [hq] using hi
      have hagg : (isAgg ty).run P w = .ok true w := by
        unfold isAgg
        rw [Sem.run_bind, run_underlying hu w]
        cases d <;> simp_all [TypeDesc.isRow]
      simp [loadVar, Sem.run_bind, hagg, sizeOf, typeInfo, hq, hs, hl]
  unfold Oper.wp execOp
  simp only [ho, hx, Instr.loadAt, Instr.sureAddr, Sem.run_bind, Sem.run_pure, Result.andThen_ok, hv]
  exact hK _ _ h
end

theorem any_take_next {α : Type} {P : α → Bool} {l : List α} {k : Nat} {x : α} (h : (l.take k).any P = false) (hx : l[k]? = some x) (hp : P x = false) : (l.take (k + 1)).any P = false := by
  rw [List.take_add_one, hx, List.any_append, h]
  simp [hp]

set_option maxRecDepth 100000 in
set_option maxHeartbeats 1000000 in
/-- slices.IndexFunc over integers. -/
theorem indexI_of {B : Nat} (f : Nat) (cap : List Value) (P : Int → Bool) (l : List Int) (A : Option Addr) (n c : Nat) (w : World) (hn : n = l.length) (h : Rds w B A (l.map iv)) (hB : B ≤ w.heap.size) (hl : n ≤ 140737488355328) (hcf : ∀ (args : Array Value) (W : World), (callFunc f args).run Try.prog W = .ok (.enter f args) W)
    (HG : ∀ (x : Int), x ∈ l → ∀ W, Below w.heap.size w W → Calls Try.prog f (iv x :: cap).toArray W fun e W' => e = .returned (.bool (P x)) ∧ Below W.heap.size W W') :
    Calls Try.prog 27 #[.slice A n c, .func (.func f) #[] cap.toArray] w fun e w' => (∃ z : Int, e = .returned (.int .i64 z) ∧ decide (0 ≤ z) = l.any P) ∧ Below w.heap.size w w' := by
  have HG' := Lib.hid HG
  have h' := Lib.hid h
  have hn' := Lib.hid hn
  have hB' := Lib.hid hB
  clear HG h hn hB
  go_enter Try.func27, Try.ntmps27
  go_wp2_with fail
  go_loopw [8] (fun i wr => ∃ k : Nat, k ≤ n ∧ i = .int .i64 k ∧ Hid ((l.take k).any P = false) ∧ Hid (Below w.heap.size w wr)) (fun i _ => n - (intOf i).toNat)
  case atStart => exact ⟨0, by omega, rfl, rfl, Below.refl _ _⟩
  case round =>
    obtain ⟨k, hk, rfl, hno, hBw⟩ := hrel
    by_cases hlt : k < n
    · obtain ⟨x, hx⟩ : ∃ x, l[k]? = some x := ⟨_, List.getElem?_eq_getElem (by rw [← hn'.out]; exact hlt)⟩
      obtain ⟨ad, rfl, hab, hc⟩ := (h'.out.below (hBw.out.mono hB'.out)).look (k := k) (u := iv x) (by rw [List.getElem?_map, hx]; rfl)
      have HC := Lib.hid (HG'.out x (List.mem_of_getElem? hx) wr hBw.out)
      have t : (k : Int) < (n : Int) := by omega
      have t0 : 0 ≤ (k : Int) := by omega
      have hx' := Lib.hid hx
      obtain ⟨r, hr⟩ : ∃ r, P x = r := ⟨_, rfl⟩
      rw [hr] at HC
      have hr' := Lib.hid hr
      unfold iv at hc HC
      clear hx hr
      go_wp2_with fail
      refine HC.out.mono ?_
      rintro e w2 ⟨rfl, hb2⟩
      have hB2 := Lib.hid (hBw.out.trans (hb2.mono hBw.out.size))
      clear hb2 hc
      cases r with
      | true =>
        go_wp2_with fail
        go_ret
        refine ⟨⟨(k : Int), rfl, ?_⟩, hB2.out⟩
        have e0 : decide (0 ≤ (k : Int)) = true := decide_eq_true (by omega)
        exact e0.trans (List.any_eq_true.2 ⟨x, List.mem_of_getElem? hx'.out, hr'.out⟩).symm
      | false =>
        have hnext := Lib.hid (any_take_next hno.out hx'.out hr'.out)
        go_wp2_with fail
        go_roundw
        case rel => exact ⟨k + 1, by omega, by go_num, hnext, hB2⟩
        case measure => simp [intOf]; omega
    · have t : ¬ (k : Int) < (n : Int) := by omega
      have hfin : Hid (l.any P = false) := by
        have := hno.out
        rw [List.take_of_length_le (by have := hn'.out; omega)] at this
        exact this
      go_wp2_with fail
      go_ret
      exact ⟨⟨-1, rfl, by rw [hfin.out]; exact decide_eq_false (by decide)⟩, hBw.out⟩

set_option maxRecDepth 100000 in
set_option maxHeartbeats 1000000 in
theorem containsI_of {B : Nat} (f : Nat) (cap : List Value) (P : Int → Bool) (l : List Int) (A : Option Addr) (n c : Nat) (w : World) (hn : n = l.length) (h : Rds w B A (l.map iv)) (hB : B ≤ w.heap.size) (hl : n ≤ 140737488355328) (hcf : ∀ (args : Array Value) (W : World), (callFunc f args).run Try.prog W = .ok (.enter f args) W)
    (HG : ∀ (x : Int), x ∈ l → ∀ W, Below w.heap.size w W → Calls Try.prog f (iv x :: cap).toArray W fun e W' => e = .returned (.bool (P x)) ∧ Below W.heap.size W W') :
    Calls Try.prog 16 #[.slice A n c, .func (.func f) #[] cap.toArray] w fun e w' => e = .returned (.bool (l.any P)) ∧ Below w.heap.size w w' := by
  have H := Lib.hid (indexI_of f cap P l A n c w hn h hB hl hcf HG)
  clear HG h hn
  go_enter Try.func16, Try.ntmps16
  go_wp2_with fail
  refine H.out.mono ?_
  rintro e w' ⟨⟨z, rfl, hz⟩, hb⟩
  have hz' := Lib.hid hz
  clear hz
  go_wp2_with fail
  go_ret
  exact ⟨by rw [← hz'.out]; rfl, hb⟩

set_option maxRecDepth 100000 in
set_option maxHeartbeats 1000000 in
/-- slices.IndexFunc over racks. -/
theorem indexR_of {B : Nat} (f : Nat) (cap : List Value) (P : Int × Bool → Bool) (l : List (Int × Bool)) (A : Option Addr) (n c : Nat) (w : World) (hn : n = l.length) (h : Rds w B A (rflat l)) (hB : B ≤ w.heap.size) (hl : n ≤ 140737488355328) (hcf : ∀ (args : Array Value) (W : World), (callFunc f args).run Try.prog W = .ok (.enter f args) W)
    (HG : ∀ x, x ∈ l → ∀ W, Below w.heap.size w W → Calls Try.prog f (.agg (rv x).toArray :: cap).toArray W fun e W' => e = .returned (.bool (P x)) ∧ Below W.heap.size W W') :
    Calls Try.prog 28 #[.slice A n c, .func (.func f) #[] cap.toArray] w fun e w' => (∃ z : Int, e = .returned (.int .i64 z) ∧ decide (0 ≤ z) = l.any P) ∧ Below w.heap.size w w' := by
  have HG' := Lib.hid HG
  have h' := Lib.hid h
  have hn' := Lib.hid hn
  have hB' := Lib.hid hB
  clear HG h hn hB
  go_enter Try.func28, Try.ntmps28
  go_wp2_with fail
  go_loopw [8] (fun i wr => ∃ k : Nat, k ≤ n ∧ i = .int .i64 k ∧ Hid ((l.take k).any P = false) ∧ Hid (Below w.heap.size w wr)) (fun i _ => n - (intOf i).toNat)
  case atStart => exact ⟨0, by omega, rfl, rfl, Below.refl _ _⟩
  case round =>
    obtain ⟨k, hk, rfl, hno, hBw⟩ := hrel
    by_cases hlt : k < n
    · obtain ⟨x, hx⟩ : ∃ x, l[k]? = some x := ⟨_, List.getElem?_eq_getElem (by rw [← hn'.out]; exact hlt)⟩
      have hR := h'.out.below (hBw.out.mono hB'.out)
      obtain ⟨ad, rfl, hab, hc0⟩ := hR.look (rflat_at hx).1
      have hc1 : wr.cell? (ad.add (k * 2 + 1)) = some (.bool x.2) := by
        obtain ⟨ad', e, _, hc⟩ := hR.look (rflat_at hx).2
        injection e with e
        rw [e]; exact hc
      have hcc : Hid (∀ j v, (rv x)[j]? = some v → wr.cell? ((ad.add (k * 2)).add j) = some v) := by
        intro j v hv
        rw [add_twice]
        match j, hv with
        | 0, hv => injection hv with hv; rw [← hv]; exact hc0
        | 1, hv => injection hv with hv; rw [← hv]; exact hc1
      have HC := Lib.hid (HG'.out x (List.mem_of_getElem? hx) wr hBw.out)
      have t : (k : Int) < (n : Int) := by omega
      have t0 : 0 ≤ (k : Int) := by omega
      have hx' := Lib.hid hx
      obtain ⟨r, hr⟩ : ∃ r, P x = r := ⟨_, rfl⟩
      rw [hr] at HC
      have hr' := Lib.hid hr
      have hsz := Lib.hid size_rack
      clear hx hr hc0 hc1 hR
      go_wp2_with (refine wpList_load_str rfl 42 _ rfl _ rfl (rv x) _ hcc.out Try.underlying42 rfl hsz.out ?_)
      refine HC.out.mono ?_
      rintro e w2 ⟨rfl, hb2⟩
      have hB2 := Lib.hid (hBw.out.trans (hb2.mono hBw.out.size))
      clear hb2 hcc
      cases r with
      | true =>
        go_wp2_with fail
        go_ret
        refine ⟨⟨(k : Int), rfl, ?_⟩, hB2.out⟩
        have e0 : decide (0 ≤ (k : Int)) = true := decide_eq_true (by omega)
        exact e0.trans (List.any_eq_true.2 ⟨x, List.mem_of_getElem? hx'.out, hr'.out⟩).symm
      | false =>
        have hnext := Lib.hid (any_take_next hno.out hx'.out hr'.out)
        go_wp2_with fail
        go_roundw
        case rel => exact ⟨k + 1, by omega, by go_num, hnext, hB2⟩
        case measure => simp [intOf]; omega
    · have t : ¬ (k : Int) < (n : Int) := by omega
      have hfin : Hid (l.any P = false) := by
        have := hno.out
        rw [List.take_of_length_le (by have := hn'.out; omega)] at this
        exact this
      go_wp2_with fail
      go_ret
      exact ⟨⟨-1, rfl, by rw [hfin.out]; exact decide_eq_false (by decide)⟩, hBw.out⟩

set_option maxRecDepth 100000 in
set_option maxHeartbeats 1000000 in
theorem containsR_of {B : Nat} (f : Nat) (cap : List Value) (P : Int × Bool → Bool) (l : List (Int × Bool)) (A : Option Addr) (n c : Nat) (w : World) (hn : n = l.length) (h : Rds w B A (rflat l)) (hB : B ≤ w.heap.size) (hl : n ≤ 140737488355328) (hcf : ∀ (args : Array Value) (W : World), (callFunc f args).run Try.prog W = .ok (.enter f args) W)
    (HG : ∀ x, x ∈ l → ∀ W, Below w.heap.size w W → Calls Try.prog f (.agg (rv x).toArray :: cap).toArray W fun e W' => e = .returned (.bool (P x)) ∧ Below W.heap.size W W') :
    Calls Try.prog 17 #[.slice A n c, .func (.func f) #[] cap.toArray] w fun e w' => e = .returned (.bool (l.any P)) ∧ Below w.heap.size w w' := by
  have H := Lib.hid (indexR_of f cap P l A n c w hn h hB hl hcf HG)
  clear HG h hn
  go_enter Try.func17, Try.ntmps17
  go_wp2_with fail
  refine H.out.mono ?_
  rintro e w' ⟨⟨z, rfl, hz⟩, hb⟩
  have hz' := Lib.hid hz
  clear hz
  go_wp2_with fail
  go_ret
  exact ⟨by rw [← hz'.out]; rfl, hb⟩

set_option maxRecDepth 100000 in
theorem mkOut_any (m : Int) (w : World) : Calls Try.prog 12 #[.int .i64 m] w fun e w' => e = .returned (.func (.func 13) #[] #[.pointer (some ⟨w.heap.size, 0, none⟩)]) ∧ w' = w.alloc (.cells #[.int .i64 m] 3) := by
  go_enter Try.func12, Try.ntmps12
  go_wp2_with fail
  go_ret
  exact ⟨rfl, rfl⟩
end Go.Proofs.Ytelcaddgkjkegaa
