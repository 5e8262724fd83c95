/-
  Stage 10 (domain): the reference's Relate, Few, SameList, Members.
-/
import Derived.Test.YtelcaddgkjkegaaDmj
namespace Go.Proofs.Ytelcaddgkjkegaa
set_option linter.unusedVariables false
set_option linter.unusedSimpArgs false
open Go.RowKit

theorem infoZ : (Try.prog.info? 3).map (fun i => (i.zero, i.size, i.bytes)) = some (some (.int .i64 0), 1, 8) := by kernel_rfl
/-- The integers l are a row of the call's own. -/
def OwnZ (w : World) (base : Nat) (v : Value) (l : List Int) : Prop := w.ownsRow base 3 1 v l.length (l.map iv)
theorem ownZ_nil (w : World) (base : Nat) : OwnZ w base (.slice none 0 0) [] := World.ownsRow_nil w base _ _
theorem push_z {w0 : World} {ops : Array Oper} {rest : List Oper} {o : Oper} {a : Act} {Q : Exit → Act → World → Prop} (hgd : o.guard = none) (s x : Operand)
    (ho : o.op = .call { callee := .builtin .append, args := #[s, x], argTypes := #[22, 22] })
    (base : Nat) (v : Value) (l : List Int) (b : Int) (hs : a.eval s = v) (hx : a.eval x = .slice (some ⟨w0.heap.size, 0, none⟩) 1 1)
    (hown : OwnZ w0 base v l) (hlen : l.length ≤ 1000000000000) (hbase : base ≤ w0.heap.size)
    (h : ∀ v' w', OwnZ w' base v' (l ++ [b]) → w0.grownBy w' v.ownBlock → wpList Try.prog ops Q rest (a.put o.dst v') w') :
    wpList Try.prog ops Q (o :: rest) a (w0.alloc (.cells #[.int .i64 b] 3)) := by
  obtain ⟨i0, hi, hz0, hz1, hz2⟩ := info_parts infoZ
  refine wpList_push hgd s x 22 ho base 3 i0 (.int .i64 0) 8 Try.underlying22 hi hz0 hz1 hz2 rfl v l.length (l.map iv) (iv b) hs hx rfl hown (by omega) (by unfold maxLen; omega) hbase ?_
  intro v' w' h1 h2
  exact h v' w' (by unfold OwnZ; simpa using h1) h2.1
theorem grown_none {w w' : World} (hb : Below w.heap.size w w') (row : Option Nat) : w.grownBy w' row := ⟨hb.os, hb.tape, hb.output, hb.size, fun i hi _ => hb.block i hi⟩
theorem OwnZ.keep {w w' : World} {base : Nat} {v : Value} {l : List Int} (h : OwnZ w base v l) (hb : Below w.heap.size w w') : OwnZ w' base v l := by
  unfold OwnZ
  cases hk : v.ownBlock with
  | none => exact World.ownsRow.kept h (grown_none hb none) (.inl hk)
  | some k => exact World.ownsRow.kept h (grown_none hb none) (.inr (by rw [hk]; simp))
theorem OwnZ.lower {w : World} {base base' : Nat} {v : Value} {l : List Int} (h : OwnZ w base v l) (hb : base' ≤ base) : OwnZ w base' v l :=
  ⟨h.1, h.2.imp id fun ⟨g, cap, cur, h1, h2, h3⟩ => ⟨g, cap, cur, h1, Nat.le_trans hb h2, h3⟩⟩
theorem OwnZ.slice {w : World} {base : Nat} {v : Value} {l : List Int} (h : OwnZ w base v l) : ∃ A c, v = .slice A l.length c ∧ l.length ≤ c ∧ c ≤ maxLen ∧ (A = none → c = 0) ∧ Rds w w.heap.size A (l.map iv) := own_form h

def sameZ (a b : List Int) : Bool := decide (a = b)
theorem takeZ_next {α : Type} {a b : List α} {k : Nat} {x : α} (h : a.take k = b.take k) (ha : a[k]? = some x) (hb : b[k]? = some x) : a.take (k + 1) = b.take (k + 1) := by
  rw [List.take_add_one, List.take_add_one, h, ha, hb]
theorem sameZ_false {a b : List Int} {k : Nat} {x y : Int} (ha : a[k]? = some x) (hb : b[k]? = some y) (h : x ≠ y) : sameZ a b = false := by
  unfold sameZ
  rw [decide_eq_false_iff_not]
  rintro rfl
  rw [ha] at hb
  exact h (Option.some.inj hb)

set_option maxRecDepth 100000 in
set_option maxHeartbeats 1000000 in
theorem sameZ_any {B B' : Nat} (a b : List Int) (A A' : Option Addr) (n n' c c' : Nat) (w : World) (h : Rds w B A (a.map iv)) (h' : Rds w B' A' (b.map iv)) (hn : n = a.length) (hn' : n' = b.length) (hl : n ≤ 140737488355328) :
    Calls Try.prog 21 #[.slice A n c, .slice A' n' c'] w fun e w' => e = .returned (.bool (sameZ a b)) ∧ ∃ n, w' = w.drewN n := by
  by_cases hab : n = n'
  rotate_left
  · have hr : sameZ a b = false := by unfold sameZ; rw [decide_eq_false_iff_not]; rintro rfl; omega
    have t : ((n : Int) != (n' : Int)) = true := by simp only [bne_iff_ne, ne_eq]; omega
    rw [hr]
    clear hab h h' hr hn hn'
    go_enter Try.func21, Try.ntmps21
    go_wp2_with fail
    go_ret
    exact ⟨rfl, 0, rfl⟩
  subst hab
  have ha := Lib.hid h
  have hb := Lib.hid h'
  obtain ⟨r, hr0⟩ : ∃ r, r = sameZ a b := ⟨_, rfl⟩
  have hr := Lib.hid hr0
  rw [← hr0]
  have hnn : Hid (n = a.length ∧ n = b.length) := ⟨hn, hn'⟩
  clear h h' hr0 hn hn'
  go_enter Try.func21, Try.ntmps21
  go_wp2_with fail
  go_loopw [5] (fun i wr => ∃ k m : Nat, k ≤ n ∧ i = .int .i64 k ∧ Hid (a.take k = b.take k) ∧ wr = w.drewN m) (fun i _ => n - (intOf i).toNat)
  case atStart => exact ⟨0, 0, by omega, rfl, rfl, rfl⟩
  case round =>
    obtain ⟨k, m, hk, rfl, heq, rfl⟩ := hrel
    by_cases hlt : k < n
    · have t : (k : Int) < (n : Int) := by omega
      have t0 : 0 ≤ (k : Int) := by omega
      obtain ⟨x, hx⟩ : ∃ x, a[k]? = some x := ⟨_, List.getElem?_eq_getElem (by have := hnn.out.1; omega)⟩
      obtain ⟨y, hy⟩ : ∃ x, b[k]? = some x := ⟨_, List.getElem?_eq_getElem (by have := hnn.out.2; omega)⟩
      obtain ⟨ad, rfl, _, hca⟩ := ha.out.look (k := k) (u := iv x) (by rw [List.getElem?_map, hx]; rfl)
      obtain ⟨bd, rfl, _, hcb⟩ := hb.out.look (k := k) (u := iv y) (by rw [List.getElem?_map, hy]; rfl)
      have hx' := Lib.hid hx
      have hy' := Lib.hid hy
      unfold iv at hca hcb
      clear hx hy
      by_cases hxy : x = y
      · subst hxy
        have hnx := Lib.hid (takeZ_next heq.out hx'.out hy'.out)
        go_wp2_with fail
        go_quiet (fail)
        go_wp2
        go_roundw
        case rel => exact ⟨k + 1, _, by omega, by go_num, hnx, by first | rfl | (go_simp; done) | (go_simp; rfl)⟩
        case measure => simp [intOf]; omega
      · have tne : (x != y) = true := by simp only [bne_iff_ne, ne_eq]; exact hxy
        have hf : Hid (r = false) := by show _ = _; rw [hr.out]; exact sameZ_false hx'.out hy'.out hxy
        clear hxy
        go_wp2_with fail
        go_quiet (fail)
        go_wp2
        go_ret
        exact ⟨by rw [hf.out]; rfl, _, by first | rfl | (go_simp; done) | (go_simp; rfl)⟩
    · have t : ¬ (k : Int) < (n : Int) := by omega
      have hf : Hid (r = true) := by
        have := heq.out
        rw [List.take_of_length_le (by have := hnn.out.1; omega), List.take_of_length_le (by have := hnn.out.2; omega)] at this
        show _ = _
        rw [hr.out, this]
        unfold sameZ
        simp
      go_wp2_with fail
      go_ret
      exact ⟨by rw [hf.out]; rfl, m, rfl⟩

/-- The members among the first k disks. -/
def Dm.memT (d : Dm) (lv n : Int) (k : Nat) : List Int := ((List.range k).filter fun k : Nat => decide (0 ≤ n ∧ d.of lv k = n)).map fun k : Nat => (k : Int)
def Dm.memI (d : Dm) (lv n : Int) : List Int := d.memT lv n d.D.length
theorem memT_yes {d : Dm} {lv n : Int} {k : Nat} (h0 : 0 ≤ n) (h : d.of lv k = n) : d.memT lv n (k + 1) = d.memT lv n k ++ [(k : Int)] := by
  unfold Dm.memT
  rw [List.range_succ, List.filter_append, List.map_append]
  simp [h0, h]
theorem memT_no {d : Dm} {lv n : Int} {k : Nat} (h : d.of lv k ≠ n) : d.memT lv n (k + 1) = d.memT lv n k := by
  unfold Dm.memT
  rw [List.range_succ, List.filter_append, List.map_append]
  simp [h]
theorem memT_neg {d : Dm} {lv n : Int} (k : Nat) (h0 : ¬ 0 ≤ n) : d.memT lv n k = [] := by
  unfold Dm.memT
  rw [List.map_eq_nil_iff, List.filter_eq_nil_iff]
  intro x _ hx
  exact h0 (of_decide_eq_true hx).1
theorem memT_len (d : Dm) (lv n : Int) (k : Nat) : (d.memT lv n k).length ≤ k := by
  unfold Dm.memT
  rw [List.length_map]
  have := List.length_filter_le (fun k : Nat => decide (0 ≤ n ∧ d.of lv k = n)) (List.range k)
  rwa [List.length_range] at this

end Go.Proofs.Ytelcaddgkjkegaa
