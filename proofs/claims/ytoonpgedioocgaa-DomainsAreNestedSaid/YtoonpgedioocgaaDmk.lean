/-
  Stage 10 (domain): the reference's Relate, Few, SameList, Members.
-/
import Derived.Test.YtoonpgedioocgaaDmj
namespace Go.Proofs.Ytoonpgedioocgaa
set_option linter.unusedVariables false
set_option linter.unusedSimpArgs false
open Go.RowKit

theorem infoZ : (Try.prog.info? 3).map (fun i => (i.zero, i.size, i.bytes)) = some (some (.int .i64 0), 1, 8) := by kernel_rfl
/-- The integers l are a row of the call's own. -/
def OwnZ (w : World) (base : Nat) (v : Value) (l : List Int) : Prop := w.ownsRow base 3 1 v l.length (l.map iv)
theorem ownZ_nil (w : World) (base : Nat) : OwnZ w base (.slice none 0 0) [] := World.ownsRow_nil w base _ _
theorem push_z {w0 : World} {ops : Array Oper} {rest : List Oper} {o : Oper} {a : Act} {Q : Exit → Act → World → Prop} (hgd : o.guard = none) (s x : Operand)
    (ho : o.op = .call { callee := .builtin .append, args := #[s, x], argTypes := #[22, 22] })
    (base : Nat) (v : Value) (l : List Int) (b : Int) (hs : a.eval s = v) (hx : a.eval x = .slice (some ⟨w0.heap.size, 0, none⟩) 1 1)
    (hown : OwnZ w0 base v l) (hlen : l.length ≤ 1000000000000) (hbase : base ≤ w0.heap.size)
    (h : ∀ v' w', OwnZ w' base v' (l ++ [b]) → w0.grownBy w' v.ownBlock → wpList Try.prog ops Q rest (a.put o.dst v') w') :
    wpList Try.prog ops Q (o :: rest) a (w0.alloc (.cells #[.int .i64 b] 3)) := by
  obtain ⟨i0, hi, hz0, hz1, hz2⟩ := info_parts infoZ
  refine wpList_push hgd s x 22 ho base 3 i0 (.int .i64 0) 8 Try.underlying22 hi hz0 hz1 hz2 rfl v l.length (l.map iv) (iv b) hs hx rfl hown (by omega) (by unfold maxLen; omega) hbase ?_
  intro v' w' h1 h2
  exact h v' w' (by unfold OwnZ; simpa using h1) h2.1
theorem grown_none {w w' : World} (hb : Below w.heap.size w w') (row : Option Nat) : w.grownBy w' row := ⟨hb.os, hb.tape, hb.output, hb.size, fun i hi _ => hb.block i hi⟩
theorem OwnZ.keep {w w' : World} {base : Nat} {v : Value} {l : List Int} (h : OwnZ w base v l) (hb : Below w.heap.size w w') : OwnZ w' base v l := by
  unfold OwnZ
  cases hk : v.ownBlock with
  | none => exact World.ownsRow.kept h (grown_none hb none) (.inl hk)
  | some k => exact World.ownsRow.kept h (grown_none hb none) (.inr (by rw [hk]; simp))
theorem OwnZ.lower {w : World} {base base' : Nat} {v : Value} {l : List Int} (h : OwnZ w base v l) (hb : base' ≤ base) : OwnZ w base' v l :=
  ⟨h.1, h.2.imp id fun ⟨g, cap, cur, h1, h2, h3⟩ => ⟨g, cap, cur, h1, Nat.le_trans hb h2, h3⟩⟩
theorem OwnZ.slice {w : World} {base : Nat} {v : Value} {l : List Int} (h : OwnZ w base v l) : ∃ A c, v = .slice A l.length c ∧ l.length ≤ c ∧ c ≤ maxLen ∧ (A = none → c = 0) ∧ Rds w w.heap.size A (l.map iv) := own_form h

def sameZ (a b : List Int) : Bool := decide (a = b)
theorem takeZ_next {α : Type} {a b : List α} {k : Nat} {x : α} (h : a.take k = b.take k) (ha : a[k]? = some x) (hb : b[k]? = some x) : a.take (k + 1) = b.take (k + 1) := by
  rw [List.take_add_one, List.take_add_one, h, ha, hb]
theorem sameZ_false {a b : List Int} {k : Nat} {x y : Int} (ha : a[k]? = some x) (hb : b[k]? = some y) (h : x ≠ y) : sameZ a b = false := by
  unfold sameZ
  rw [decide_eq_false_iff_not]
  rintro rfl
  rw [ha] at hb
  exact h (Option.some.inj hb)

set_option maxRecDepth 100000 in
set_option maxHeartbeats 1000000 in
theorem sameZ_any {B B' : Nat} (a b : List Int) (A A' : Option Addr) (n n' c c' : Nat) (w : World) (h : Rds w B A (a.map iv)) (h' : Rds w B' A' (b.map iv)) (hn : n = a.length) (hn' : n' = b.length) (hl : n ≤ 140737488355328) :
    Calls Try.prog 13 #[.slice A n c, .slice A' n' c'] w fun e w' => e = .returned (.bool (sameZ a b)) ∧ ∃ n, w' = w.drewN n := by
  by_cases hab : n = n'
  rotate_left
  · have hr : sameZ a b = false := by unfold sameZ; rw [decide_eq_false_iff_not]; rintro rfl; omega
    have t : ((n : Int) != (n' : Int)) = true := by simp only [bne_iff_ne, ne_eq]; omega
    rw [hr]
    clear hab h h' hr hn hn'
    go_enter Try.func13, Try.ntmps13
    go_wp2_with fail
    go_ret
    exact ⟨rfl, 0, rfl⟩
  subst hab
  have ha := Lib.hid h
  have hb := Lib.hid h'
  obtain ⟨r, hr0⟩ : ∃ r, r = sameZ a b := ⟨_, rfl⟩
  have hr := Lib.hid hr0
  rw [← hr0]
  have hnn : Hid (n = a.length ∧ n = b.length) := ⟨hn, hn'⟩
  clear h h' hr0 hn hn'
  go_enter Try.func13, Try.ntmps13
  go_wp2_with fail
  go_loopw [5] (fun i wr => ∃ k m : Nat, k ≤ n ∧ i = .int .i64 k ∧ Hid (a.take k = b.take k) ∧ wr = w.drewN m) (fun i _ => n - (intOf i).toNat)
  case atStart => exact ⟨0, 0, by omega, rfl, rfl, rfl⟩
  case round =>
    obtain ⟨k, m, hk, rfl, heq, rfl⟩ := hrel
    by_cases hlt : k < n
    · have t : (k : Int) < (n : Int) := by omega
      have t0 : 0 ≤ (k : Int) := by omega
      obtain ⟨x, hx⟩ : ∃ x, a[k]? = some x := ⟨_, List.getElem?_eq_getElem (by have := hnn.out.1; omega)⟩
      obtain ⟨y, hy⟩ : ∃ x, b[k]? = some x := ⟨_, List.getElem?_eq_getElem (by have := hnn.out.2; omega)⟩
      obtain ⟨ad, rfl, _, hca⟩ := ha.out.look (k := k) (u := iv x) (by rw [List.getElem?_map, hx]; rfl)
      obtain ⟨bd, rfl, _, hcb⟩ := hb.out.look (k := k) (u := iv y) (by rw [List.getElem?_map, hy]; rfl)
      have hx' := Lib.hid hx
      have hy' := Lib.hid hy
      unfold iv at hca hcb
      clear hx hy
      by_cases hxy : x = y
      · subst hxy
        have hnx := Lib.hid (takeZ_next heq.out hx'.out hy'.out)
        go_wp2_with fail
        go_quiet (fail)
        go_wp2
        go_roundw
        case rel => exact ⟨k + 1, _, by omega, by go_num, hnx, by first | rfl | (go_simp; done) | (go_simp; rfl)⟩
        case measure => simp [intOf]; omega
      · have tne : (x != y) = true := by simp only [bne_iff_ne, ne_eq]; exact hxy
        have hf : Hid (r = false) := by show _ = _; rw [hr.out]; exact sameZ_false hx'.out hy'.out hxy
        clear hxy
        go_wp2_with fail
        go_quiet (fail)
        go_wp2
        go_ret
        exact ⟨by rw [hf.out]; rfl, _, by first | rfl | (go_simp; done) | (go_simp; rfl)⟩
    · have t : ¬ (k : Int) < (n : Int) := by omega
      have hf : Hid (r = true) := by
        have := heq.out
        rw [List.take_of_length_le (by have := hnn.out.1; omega), List.take_of_length_le (by have := hnn.out.2; omega)] at this
        show _ = _
        rw [hr.out, this]
        unfold sameZ
        simp
      go_wp2_with fail
      go_ret
      exact ⟨by rw [hf.out]; rfl, m, rfl⟩

set_option maxRecDepth 100000 in
set_option maxHeartbeats 1000000 in
theorem few10_any (h : Hd) (k : Nat) (w : World) (hk : k ≤ 1000000) (n1 : h.n1 ≤ 140737488355328) (n2 : h.n2 ≤ 140737488355328) (n3 : h.n3 ≤ 140737488355328) :
    Calls Try.prog 7 #[h.val, .int .i64 k] w fun e w' => e = .returned (.bool (decide (h.n1 ≤ k ∧ h.n2 ≤ k ∧ h.n3 ≤ k))) ∧ Below w.heap.size w w' := by
  have hB1 : Hid (Below w.heap.size w (w.alloc (.cells h.cells.toArray 25))) := (Below.refl _ _).alloc (Nat.le_refl _) _
  have hR1 := Blk.new w h.cells 25
  have q0 := hR1.cell (j := 0) rfl
  have q1 := hR1.cell (j := 1) rfl
  have q2 := hR1.cell (j := 2) rfl
  clear hR1
  unfold Hd.cells at *
  unfold Hd.val
  obtain ⟨a1, m1, c1, a2, m2, c2, a3, m3, c3, o⟩ := h
  dsimp only at *
  obtain ⟨r, hr0⟩ : ∃ r, r = decide (m1 ≤ k ∧ m2 ≤ k ∧ m3 ≤ k) := ⟨_, rfl⟩
  have hr := Lib.hid hr0
  rw [← hr0]
  clear hr0
  by_cases u1 : (m1 : Int) ≤ (k : Int)
  rotate_left
  · have hz : Hid (r = false) := by show _ = _; rw [hr.out, decide_eq_false_iff_not]; omega
    go_enter Try.func7, Try.ntmps7
    go_wp2_with fail
    go_ret
    exact ⟨by rw [hz.out]; rfl, hB1.out⟩
  by_cases u2 : (m2 : Int) ≤ (k : Int)
  rotate_left
  · have hz : Hid (r = false) := by show _ = _; rw [hr.out, decide_eq_false_iff_not]; omega
    go_enter Try.func7, Try.ntmps7
    go_wp2_with fail
    go_ret
    exact ⟨by rw [hz.out]; rfl, hB1.out⟩
  by_cases u3 : (m3 : Int) ≤ (k : Int)
  rotate_left
  · have hz : Hid (r = false) := by show _ = _; rw [hr.out, decide_eq_false_iff_not]; omega
    go_enter Try.func7, Try.ntmps7
    go_wp2_with fail
    go_ret
    exact ⟨by rw [hz.out]; rfl, hB1.out⟩
  have hz : Hid (r = true) := by show _ = _; rw [hr.out, decide_eq_true_iff]; omega
  go_enter Try.func7, Try.ntmps7
  go_wp2_with fail
  go_ret
  exact ⟨by rw [hz.out]; rfl, hB1.out⟩

set_option maxRecDepth 100000 in
set_option maxHeartbeats 4000000 in
theorem rrel_any {B : Nat} (h : Hd) (d : Dm) (a b : Int) (w : World) (m : DomM w B h d) :
    Calls Try.prog 19 #[h.val, .int .i64 a, .int .i64 b] w fun e w' => e = .returned (.int .i64 (d.rel a b)) ∧ Below w.heap.size w w' := by
  obtain ⟨W1, hW1⟩ : ∃ W1, W1 = w.alloc (.cells h.cells.toArray 25) := ⟨_, rfl⟩
  have hB1 : Hid (Below w.heap.size w W1) := by show Below _ _ _; rw [hW1]; exact (Below.refl _ _).alloc (Nat.le_refl _) _
  have hR1 : Hid (Blk W1 w.heap.size h.cells 25) := by show Blk _ _ _ _; rw [hW1]; exact Blk.new _ _ _
  have hm1 := Lib.hid (m.below hB1.out)
  have CF := Lib.hid (fun lv k W (hW : Below W1.heap.size W1 W) => rof_any h d lv k W (hm1.out.below hW))
  have hW1' := Lib.hid hW1
  have hlt1 := Lib.hid hR1.out.lt
  have hdd := Lib.hid size_dom
  have hun : Hid (Try.prog.underlying 25 = _) := Try.underlying25
  obtain ⟨r, hr0⟩ : ∃ r, r = d.rel a b := ⟨_, rfl⟩
  have hr := Lib.hid hr0
  rw [← hr0]
  unfold Hd.cells at hR1 hW1'
  unfold Hd.val at CF ⊢
  clear m hW1 hm1 hr0
  go_enter Try.func19, Try.ntmps19
  go_wp2_with fail
  generalize hg : w.alloc _ = Wg
  have hgW : W1 = Wg := by rw [← hg, hW1'.out]
  clear hg hW1'
  subst hgW
  go_wp2_with fail
  go_loopw [7] (fun i wr => ∃ k : Nat, k ≤ 4 ∧ i = .int .i64 k ∧ Hid (∀ l : Nat, l < k → ¬ d.tog a b l) ∧ Hid (Below W1.heap.size W1 wr)) (fun i _ => 4 - (intOf i).toNat)
  case atStart => exact ⟨0, by omega, rfl, fun l hl => by omega, Below.refl _ _⟩
  case round =>
    obtain ⟨k, hk, rfl, hno, hBw⟩ := hrel
    by_cases hlt : k < 4
    · have t : (k : Int) < 4 := by omega
      have hR2 := Lib.hid (hR1.out.below hBw.out hlt1.out)
      obtain ⟨x, hx0⟩ : ∃ x, x = d.of k a := ⟨_, rfl⟩
      obtain ⟨y, hy0⟩ : ∃ y, y = d.of k b := ⟨_, rfl⟩
      have C1 := Lib.hid (CF.out k a wr hBw.out)
      have C2 := Lib.hid (fun W hW => CF.out k b W hW)
      rw [← hx0] at C1
      have hx := Lib.hid hx0
      have hy := Lib.hid hy0
      clear hx0 hy0
      go_wp2_with (refine wpList_blk_load rfl 25 _ rfl 0 rfl hR2.out _ (take_all0 _) _ hun.out rfl hdd.out ?_)
      refine C1.out.mono ?_
      rintro e w2 ⟨rfl, hb2⟩
      have hB2 := Lib.hid (hBw.out.trans (hb2.mono hBw.out.size))
      have hR3 := Lib.hid (hR1.out.below hB2.out hlt1.out)
      have C3 := Lib.hid (C2.out w2 hB2.out)
      rw [← hy.out] at C3
      clear hb2
      go_wp2_with (refine wpList_blk_load rfl 25 _ rfl 0 rfl hR3.out _ (take_all0 _) _ hun.out rfl hdd.out ?_)
      refine C3.out.mono ?_
      rintro e w3 ⟨rfl, hb3⟩
      have hB3 := Lib.hid (hB2.out.trans (hb3.mono hB2.out.size))
      have hBz := Lib.hid (hB1.out.trans (hB3.out.mono hB1.out.size))
      clear hb3
      by_cases h0 : 0 ≤ x
      · have hcase : Hid (x = y ↔ d.tog a b k) := by
          show _ ↔ _
          unfold Dm.tog
          rw [← hx.out, ← hy.out]
          exact ⟨fun e => ⟨h0, e⟩, fun e => e.2⟩
        by_cases hxy : x = y
        · have hz : Hid (r = k) := by show _ = _; rw [hr.out]; exact Dm.rel_at hlt hno.out (hcase.out.1 hxy)
          have te : (x == y) = true := by rw [hxy]; simp
          clear hxy
          go_wp2_with fail
          go_ret
          exact ⟨by rw [hz.out]; rfl, hBz.out⟩
        · have te : (x == y) = false := by simp only [beq_eq_false_iff_ne, ne_eq]; exact hxy
          have hnx : Hid (∀ l : Nat, l < k + 1 → ¬ d.tog a b l) := no_next (P := fun l => d.tog a b l) hno.out (fun ht => hxy (hcase.out.2 ht))
          clear hxy
          go_wp2_with fail
          go_roundw
          case rel => exact ⟨k + 1, by omega, by go_num, hnx, hB3⟩
          case measure => simp [intOf]; omega
      · have hnx : Hid (∀ l : Nat, l < k + 1 → ¬ d.tog a b l) := no_next (P := fun l => d.tog a b l) hno.out (fun ht => h0 (by rw [hx.out]; exact ht.1))
        go_wp2_with fail
        go_roundw
        case rel => exact ⟨k + 1, by omega, by go_num, hnx, hB3⟩
        case measure => simp [intOf]; omega
    · have t : ¬ (k : Int) < 4 := by omega
      obtain rfl : k = 4 := by omega
      have hz : Hid (r = 4) := by show _ = _; rw [hr.out]; exact Dm.rel_none hno.out
      have hBz := Lib.hid (hB1.out.trans (hBw.out.mono hB1.out.size))
      go_wp2_with fail
      go_ret
      exact ⟨by rw [hz.out]; rfl, hBz.out⟩

/-- The members among the first k disks. -/
def Dm.memT (d : Dm) (lv n : Int) (k : Nat) : List Int := ((List.range k).filter fun k : Nat => decide (0 ≤ n ∧ d.of lv k = n)).map fun k : Nat => (k : Int)
def Dm.memI (d : Dm) (lv n : Int) : List Int := d.memT lv n d.D.length
theorem memT_yes {d : Dm} {lv n : Int} {k : Nat} (h0 : 0 ≤ n) (h : d.of lv k = n) : d.memT lv n (k + 1) = d.memT lv n k ++ [(k : Int)] := by
  unfold Dm.memT
  rw [List.range_succ, List.filter_append, List.map_append]
  simp [h0, h]
theorem memT_no {d : Dm} {lv n : Int} {k : Nat} (h : d.of lv k ≠ n) : d.memT lv n (k + 1) = d.memT lv n k := by
  unfold Dm.memT
  rw [List.range_succ, List.filter_append, List.map_append]
  simp [h]
theorem memT_neg {d : Dm} {lv n : Int} (k : Nat) (h0 : ¬ 0 ≤ n) : d.memT lv n k = [] := by
  unfold Dm.memT
  rw [List.map_eq_nil_iff, List.filter_eq_nil_iff]
  intro x _ hx
  exact h0 (of_decide_eq_true hx).1
theorem memT_len (d : Dm) (lv n : Int) (k : Nat) : (d.memT lv n k).length ≤ k := by
  unfold Dm.memT
  rw [List.length_map]
  have := List.length_filter_le (fun k : Nat => decide (0 ≤ n ∧ d.of lv k = n)) (List.range k)
  rwa [List.length_range] at this

set_option maxRecDepth 100000 in
set_option maxHeartbeats 4000000 in
theorem rmem_any {B : Nat} (h : Hd) (d : Dm) (lv n : Int) (w : World) (m : DomM w B h d) (hsm : d.D.length ≤ 100000) :
    Calls Try.prog 15 #[h.val, .int .i64 lv, .int .i64 n] w fun e w' => ∃ v, e = .returned v ∧ OwnZ w' w.heap.size v (d.memI lv n) ∧ Below w.heap.size w w' := by
  obtain ⟨W1, hW1⟩ : ∃ W1, W1 = w.alloc (.cells h.cells.toArray 25) := ⟨_, rfl⟩
  have hB1 : Hid (Below w.heap.size w W1) := by show Below _ _ _; rw [hW1]; exact (Below.refl _ _).alloc (Nat.le_refl _) _
  have hR1 : Hid (Blk W1 w.heap.size h.cells 25) := by show Blk _ _ _ _; rw [hW1]; exact Blk.new _ _ _
  have hm1 := Lib.hid (m.below hB1.out)
  have CF := Lib.hid (fun lv k W (hW : Below (w.heap.size + 1) W1 W) => rof_any h d lv k W (hm1.out.keep (hW.mono (Nat.le_succ_of_le m.le))))
  have hW1' := Lib.hid hW1
  have hs1 : Hid (W1.heap.size = w.heap.size + 1) := by show _ = _; rw [hW1]; simp
  have hdd := Lib.hid size_dom
  have hun : Hid (Try.prog.underlying 25 = _) := Try.underlying25
  have hl1 : Hid (h.n1 = d.D.length) := m.l1
  unfold Hd.cells at hR1 hW1'
  unfold Hd.val at CF ⊢
  clear m hW1 hm1
  obtain ⟨a1, n1, c1, a2, n2, c2, a3, n3, c3, o⟩ := h
  dsimp only at *
  have hsn : n1 ≤ 100000 := by rw [hl1.out]; exact hsm
  clear hsm
  go_enter Try.func15, Try.ntmps15
  go_wp2_with fail
  generalize hg : w.alloc _ = Wg
  have hgW : W1 = Wg := by rw [← hg, hW1'.out]
  clear hg hW1'
  subst hgW
  go_wp2_with fail
  go_loopw [7, 8] (fun v i wr => ∃ k : Nat, k ≤ n1 ∧ i = .int .i64 k ∧ Hid (OwnZ wr (w.heap.size + 1) v (d.memT lv n k)) ∧ Hid (Below (w.heap.size + 1) W1 wr)) (fun _ i _ => n1 - (intOf i).toNat)
  case atStart => exact ⟨0, by omega, rfl, ownZ_nil _ _, Below.refl _ _⟩
  case round =>
    obtain ⟨k, hk, rfl, ho, hBw⟩ := hrel
    have hR2 := Lib.hid (hR1.out.below hBw.out (Nat.lt_succ_self _))
    have q0 := hR2.out.cell (j := 0) rfl
    have hsz : w.heap.size + 1 ≤ wr.heap.size := by have := hBw.out.size; rw [hs1.out] at this; exact this
    have hsz' := Lib.hid hsz
    by_cases hlt : k < n1
    · have t : (k : Int) < (n1 : Int) := by omega
      by_cases h0 : 0 ≤ n
      · obtain ⟨x, hx0⟩ : ∃ x, x = d.of lv k := ⟨_, rfl⟩
        have C1 := Lib.hid (CF.out lv k wr hBw.out)
        rw [← hx0] at C1
        have hx := Lib.hid hx0
        clear hx0 hsz
        go_wp2_with (refine wpList_blk_load rfl 25 _ rfl 0 rfl hR2.out _ (take_all0 _) _ hun.out rfl hdd.out ?_)
        refine C1.out.mono ?_
        rintro e w2 ⟨rfl, hb2⟩
        have hB2 := Lib.hid (hBw.out.trans (hb2.mono hsz'.out))
        have ho2 : Hid (OwnZ w2 (w.heap.size + 1) u7 (d.memT lv n k)) := ho.out.keep hb2
        have hsz2 : w.heap.size + 1 ≤ w2.heap.size := Nat.le_trans hsz'.out hb2.size
        have hll : (d.memT lv n k).length ≤ 1000000000000 := by have := memT_len d lv n k; omega
        clear hb2
        by_cases hxn : x = n
        · have te : (x == n) = true := by rw [hxn]; simp
          have hL : Hid (d.memT lv n (k + 1) = d.memT lv n k ++ [(k : Int)]) := memT_yes h0 (by rw [← hx.out]; exact hxn)
          clear hxn
          generalize d.memT lv n k = L at *
          go_wp2_with (at_builtin; go_must (refine push_z rfl _ _ rfl (w.heap.size + 1) u7 L k rfl rfl ho2.out hll hsz2 ?_); intro v' w3 ho3 hg3)
          have hB3 := Lib.hid (below_grown hB2.out ho2.out hg3 hsz2)
          go_roundw
          case rel => exact ⟨k + 1, by omega, by go_num, by rw [hL.out]; exact ho3, hB3⟩
          case measure => simp [intOf]; omega
        · have te : (x == n) = false := by simp only [beq_eq_false_iff_ne, ne_eq]; exact hxn
          have hL : Hid (d.memT lv n (k + 1) = d.memT lv n k) := memT_no (by rw [← hx.out]; exact hxn)
          clear hxn
          go_wp2_with fail
          go_roundw
          case rel => exact ⟨k + 1, by omega, by go_num, by rw [hL.out]; exact ho2, hB2⟩
          case measure => simp [intOf]; omega
      · have hz : Hid (d.memI lv n = d.memT lv n k) := by show _ = _; unfold Dm.memI; rw [memT_neg _ h0, memT_neg _ h0]
        have hBz := Lib.hid (hB1.out.trans (hBw.out.mono (Nat.le_succ _)))
        have hoz : Hid (OwnZ wr w.heap.size u7 (d.memT lv n k)) := ho.out.lower (Nat.le_succ _)
        go_wp2_with fail
        go_ret
        exact ⟨_, rfl, by rw [hz.out]; exact hoz.out, hBz.out⟩
    · have t : ¬ (k : Int) < (n1 : Int) := by omega
      have hz : Hid (d.memI lv n = d.memT lv n k) := by show _ = _; unfold Dm.memI; rw [← hl1.out, show k = n1 by omega]
      have hBz := Lib.hid (hB1.out.trans (hBw.out.mono (Nat.le_succ _)))
      have hoz : Hid (OwnZ wr w.heap.size u7 (d.memT lv n k)) := ho.out.lower (Nat.le_succ _)
      go_wp2_with fail
      go_ret
      exact ⟨_, rfl, by rw [hz.out]; exact hoz.out, hBz.out⟩
end Go.Proofs.Ytoonpgedioocgaa
