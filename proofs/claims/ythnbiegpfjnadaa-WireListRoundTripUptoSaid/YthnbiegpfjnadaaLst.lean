/-
  Contracts: lists as bytes.
-/
import Derived.Test.YthnbiegpfjnadaaStr
namespace Go.Proofs.Ythnbiegpfjnadaa
open Go.RowKit

/-- An integer, a string as a value. -/
def iv (n : Int) : Value := .int .i64 n
def sv (l : List UInt8) : Value := .string (bs l)

theorem strCells_bs (l : List UInt8) : Lib.strCells (bs l) = l.map bv := rfl

/-- What appending to a row of one's own leaves, said from 'base' on alone. -/
def MoreEnd (base : Nat) (l : List UInt8) (w : World) (e : Ending) (w' : World) : Prop :=
  ∃ v', e = .returned v' ∧ OwnB w' base v' l ∧ Below base w w'
theorem AppEnd.more {base : Nat} {v : Value} {m l : List UInt8} {w : World} {e : Ending} {w' : World} (h : AppEnd base v l w e w') (hv : OwnB w base v m) (hb : base ≤ w.heap.size) : MoreEnd base l w e w' := by
  obtain ⟨v', h1, h2, h3⟩ := h
  exact ⟨v', h1, h2, h3.below hv hb⟩

/-- 'b = append(b, s...)', s a string, b the call's own. -/
theorem push_str {w : World} {ops : Array Oper} {rest : List Oper} {o : Oper} {a : Act} {Q : Exit → Act → World → Prop} (hgd : o.guard = none) (sl x : Operand)
    (ho : o.op = .call { callee := .builtin .append, args := #[sl, x], argTypes := #[28, 9] })
    (base : Nat) (v : Value) (m l : List UInt8) (S : ByteArray) (hS : S = bs l) (hs : a.eval sl = v) (hx : a.eval x = .string S)
    (hown : OwnB w base v m) (hlen : m.length + l.length ≤ 140737488355328) (hbase : base ≤ w.heap.size)
    (h : ∀ v' w', OwnB w' base v' (m ++ l) → Below base w w' → wpList Try.prog ops Q rest (a.put o.dst v') w') :
    wpList Try.prog ops Q (o :: rest) a w := by
  subst hS
  obtain ⟨i0, hi, hz0, hz1, hz2⟩ := info_parts infoByte
  have hz := bs_size l
  refine Lib.wpList_append_own_string w hgd sl x 28 9 ho base 5 i0 Try.underlying28 Try.underlying9 hi hz0 hz1 hz2 v m.length (m.map bv) hs hown (bs l) hx (by unfold maxLen; omega) (by omega) hbase ?_
  intro v' w' h1 h2 _
  refine h v' w' ?_ ((Below.refl _ _).grown h2 hbase fun _ hk => (hown.lt _ hk).1)
  unfold OwnB
  rw [List.length_append, List.map_append, ← strCells_bs, ← hz]
  exact h1

/-- 'b = append(b, c...)', c some bytes, b the call's own. -/
theorem push_bytes {w : World} {ops : Array Oper} {rest : List Oper} {o : Oper} {a : Act} {Q : Exit → Act → World → Prop} (hgd : o.guard = none) (sl x : Operand)
    (ho : o.op = .call { callee := .builtin .append, args := #[sl, x], argTypes := #[28, 28] })
    (base : Nat) (v : Value) (m l : List UInt8) (B : Nat) (A : Option Addr) (n c : Nat) (hn : n = l.length) (hA : A = none → c = 0) (hs : a.eval sl = v) (hx : a.eval x = .slice A n c)
    (hr : Rds w B A (l.map bv)) (hown : OwnB w base v m) (hlen : m.length + l.length ≤ 140737488355328) (hbase : base ≤ w.heap.size)
    (h : ∀ v' w', OwnB w' base v' (m ++ l) → Below base w w' → wpList Try.prog ops Q rest (a.put o.dst v') w') :
    wpList Try.prog ops Q (o :: rest) a w := by
  subst hn
  obtain ⟨i0, hi, hz0, hz1, hz2⟩ := info_parts infoByte
  cases A with
  | none =>
    have hl : l = [] := by
      by_cases hl : l = []
      · exact hl
      · obtain ⟨ad, hh, _⟩ := hr (by simpa using hl)
        cases hh
    subst hl
    rw [hA rfl] at hx
    refine wpList_plain hgd fun K hK => ?_
    have hrun := run_append_owned_none (P := Try.prog) w base 28 o.type 5 i0 1 Try.underlying28 hi v m.length (m.map bv) hown
    unfold Oper.wp execOp
    simp only [ho, resolve, invoke, builtin, Sem.run_bind, Sem.run_pure, Result.andThen_ok, List.map_toArray, List.map_cons, List.map_nil, hs, hx, List.length_nil, hrun]
    exact hK _ _ (h v w (by simpa using hown) (Below.refl _ _))
  | some ad =>
    have hcell : ∀ j u, (l.map bv)[j]? = some u → w.cell? (ad.add j) = some u := by
      intro j u hu
      obtain ⟨ad', he, _, hc⟩ := hr.look hu
      injection he with he
      subst he
      exact hc
    refine wpList_append_own_at w hgd sl x 28 ho base 5 i0 (.int .u8 0) 1 1 Try.underlying28 hi hz0 hz1 hz2 rfl (by decide) v m.length (m.map bv) hs hown ad l.length c (l.map bv) hx (by simp) hcell
      (by intro u hu; obtain ⟨b, _, rfl⟩ := List.mem_map.1 hu; rfl) (by unfold maxLen; omega) (by omega) hbase ?_
    intro v' w' h2 h3 _ _
    refine h v' w' ?_ ((Below.refl _ _).grown h3 hbase fun _ hk => (hown.lt _ hk).1)
    unfold OwnB
    rw [List.length_append, List.map_append]
    exact h2

set_option maxRecDepth 100000 in
set_option maxHeartbeats 400000 in
theorem appendBytes_any (base : Nat) (v : Value) (xs s : List UInt8) (w : World) (hown : OwnB w base v xs) (hb : base ≤ w.heap.size) (hlen : xs.length + s.length ≤ 140737488350000) :
    Calls Try.prog 39 #[v, sv s] w (MoreEnd base (xs ++ Wm.encBytes s) w) := by
  have HS := Lib.hid (bs_size s)
  have hel := Wm.enc_len s.length
  have H := Lib.hid (appendInt_any base v xs (s.length : Int) w hown hb ⟨by omega, by omega⟩ (by omega))
  unfold sv
  generalize hS : bs s = S at HS
  have HS2 := Lib.hid hS
  clear hS
  go_enter Try.func39, Try.ntmps39
  go_wp2_with fail
  rw [HS.out]
  refine H.out.mono ?_
  rintro e w1 ⟨v1, rfl, h2, h3⟩
  have hb1 := h3.below hown hb
  have hsz := hb1.size
  go_wp2_with (at_builtin; go_must (refine push_str rfl _ _ rfl base v1 (xs ++ Wm.enc s.length) s S HS2.out.symm rfl rfl h2 (by simp; omega) (by omega) ?_); intro v2 w2 ho2 hb2)
  go_ret
  exact ⟨_, rfl, by rw [Wm.encBytes, ← List.append_assoc]; exact ho2, hb1.trans hb2⟩

/-- A slice that reads as integers, as strings. -/
theorem infoInt : (Try.prog.info? 3).map (fun i => (i.zero, i.size, i.bytes)) = some (some (.int .i64 0), 1, 8) := by kernel_rfl
theorem infoStr : (Try.prog.info? 9).map (fun i => (i.zero, i.size, i.bytes)) = some (some (.string .empty), 1, 16) := by kernel_rfl

/-- 'l = append(l, x)' for integers and strings: the walk's step, said from 'base' on. -/
theorem push_int {w0 : World} {ops : Array Oper} {rest : List Oper} {o : Oper} {a : Act} {Q : Exit → Act → World → Prop} (hgd : o.guard = none) (s x : Operand)
    (ho : o.op = .call { callee := .builtin .append, args := #[s, x], argTypes := #[22, 22] })
    (base : Nat) (v : Value) (n : Nat) (l : List Int) (y : Int) (hs : a.eval s = v) (hx : a.eval x = .slice (some ⟨w0.heap.size, 0, none⟩) 1 1)
    (hown : w0.ownsRow base 3 1 v n (l.map iv)) (hlen : n ≤ 2000000000000) (hbase : base ≤ w0.heap.size)
    (h : ∀ v' w', w'.ownsRow base 3 1 v' (n + 1) ((l ++ [y]).map iv) → Below base w0 w' → wpList Try.prog ops Q rest (a.put o.dst v') w') :
    wpList Try.prog ops Q (o :: rest) a (w0.alloc (.cells #[iv y] 3)) := by
  obtain ⟨i0, hi, hz0, hz1, hz2⟩ := info_parts infoInt
  refine wpList_push hgd s x 22 ho base 3 i0 (.int .i64 0) 8 Try.underlying22 hi hz0 hz1 hz2 rfl v n (l.map iv) (iv y) hs hx rfl hown (by omega) (by unfold maxLen; omega) hbase ?_
  intro v' w' h1 h2
  exact h v' w' (by rw [List.map_append]; exact h1) (h2.below hown hbase)
theorem push_text {w0 : World} {ops : Array Oper} {rest : List Oper} {o : Oper} {a : Act} {Q : Exit → Act → World → Prop} (hgd : o.guard = none) (s x : Operand)
    (ho : o.op = .call { callee := .builtin .append, args := #[s, x], argTypes := #[23, 23] })
    (base : Nat) (v : Value) (n : Nat) (l : List (List UInt8)) (y : List UInt8) (hs : a.eval s = v) (hx : a.eval x = .slice (some ⟨w0.heap.size, 0, none⟩) 1 1)
    (hown : w0.ownsRow base 9 1 v n (l.map sv)) (hlen : n ≤ 2000000000000) (hbase : base ≤ w0.heap.size)
    (h : ∀ v' w', w'.ownsRow base 9 1 v' (n + 1) ((l ++ [y]).map sv) → Below base w0 w' → wpList Try.prog ops Q rest (a.put o.dst v') w') :
    wpList Try.prog ops Q (o :: rest) a (w0.alloc (.cells #[sv y] 9)) := by
  obtain ⟨i0, hi, hz0, hz1, hz2⟩ := info_parts infoStr
  refine wpList_push hgd s x 23 ho base 9 i0 (.string .empty) 16 Try.underlying23 hi hz0 hz1 hz2 rfl v n (l.map sv) (sv y) hs hx rfl hown (by omega) (by unfold maxLen; omega) hbase ?_
  intro v' w' h1 h2
  exact h v' w' (by rw [List.map_append]; exact h1) (h2.below hown hbase)

set_option maxRecDepth 100000 in
set_option maxHeartbeats 1000000 in
theorem list_int (xs : List Int) (A : Option Addr) (c : Nat) (w : World) (hr : Rds w w.heap.size A (xs.map iv)) (hl : xs.length ≤ 1000000000000) (hf : ∀ n ∈ xs, Wm.Fits n) :
    Calls Try.prog 40 #[.slice A xs.length c, .func (.func 38) #[] #[]] w (NewEnd (Wm.encList Wm.enc xs) w) := by
  have H := Lib.hid (appendInt_any w.heap.size (.slice none 0 0) [] (xs.length : Int) w (ownB_nil w _) (Nat.le_refl _) ⟨by omega, by omega⟩ (by simp))
  have hel := Wm.enc_len xs.length
  have hF := Lib.hid hf
  clear hf
  go_enter Try.func40, Try.ntmps40
  go_wp2_with fail
  refine H.out.mono ?_
  rintro e w1 ⟨v1, rfl, h2, h3⟩
  have hb1 := h3.below (ownB_nil w _) (Nat.le_refl _)
  go_wp2
  go_loopw [5, 13] (fun b i wr => ∃ k : Nat, k ≤ xs.length ∧ i = .int .i64 k ∧ OwnB wr w.heap.size b (Wm.enc xs.length ++ (xs.take k).flatMap Wm.enc) ∧ Below w.heap.size w wr) (fun _ i _ => xs.length - (intOf i).toNat)
  case atStart => exact ⟨0, by omega, rfl, by simpa using h2, hb1⟩
  case round =>
    obtain ⟨k, hk, rfl, ho, hbw⟩ := hrel
    have hsz := hbw.size
    by_cases hlt : k < xs.length
    · obtain ⟨ad, rfl, hab, hcell⟩ := (hr.below hbw).look (k := k) (u := iv xs[k]) (by simp [hlt])
      have hfl := Wm.flat_len Wm.enc 10 (xs.take k) (fun x _ => Wm.enc_len x)
      have hfk := hF.out xs[k] (List.getElem_mem hlt)
      have htf := Lib.hid (Wm.take_flat Wm.enc xs k xs[k] (List.getElem?_eq_getElem hlt))
      unfold iv at hcell
      rw [List.length_take] at hfl
      generalize xs[k] = x at hcell hfk htf
      have HA := Lib.hid (appendInt_any w.heap.size u5 _ x wr ho hsz hfk (by rw [List.length_append]; omega))
      clear hfl
      go_wp2_with fail
      refine HA.out.mono ?_
      rintro e w2 ⟨v2, rfl, ho2, hon2⟩
      go_wp2
      go_roundw
      case rel => exact ⟨k + 1, by omega, by go_num, by rw [htf.out, ← List.append_assoc]; exact ho2, hbw.trans (hon2.below ho hsz)⟩
      case measure => simp [intOf]; omega
    · go_wp2
      go_ret
      refine ⟨_, rfl, ?_, hbw⟩
      rw [List.take_of_length_le (by omega)] at ho
      exact ho

set_option maxRecDepth 100000 in
set_option maxHeartbeats 1000000 in
theorem list_str (xs : List (List UInt8)) (A : Option Addr) (c : Nat) (w : World) (hr : Rds w w.heap.size A (xs.map sv)) (hl : xs.length ≤ 1000000000000) (hl2 : (xs.flatMap Wm.encBytes).length ≤ 1000000000000) :
    Calls Try.prog 41 #[.slice A xs.length c, .func (.func 39) #[] #[]] w (NewEnd (Wm.encList Wm.encBytes xs) w) := by
  have H := Lib.hid (appendInt_any w.heap.size (.slice none 0 0) [] (xs.length : Int) w (ownB_nil w _) (Nat.le_refl _) ⟨by omega, by omega⟩ (by simp))
  have hel := Wm.enc_len xs.length
  go_enter Try.func41, Try.ntmps41
  go_wp2_with fail
  refine H.out.mono ?_
  rintro e w1 ⟨v1, rfl, h2, h3⟩
  have hb1 := h3.below (ownB_nil w _) (Nat.le_refl _)
  go_wp2
  go_loopw [5, 13] (fun b i wr => ∃ k : Nat, k ≤ xs.length ∧ i = .int .i64 k ∧ OwnB wr w.heap.size b (Wm.enc xs.length ++ (xs.take k).flatMap Wm.encBytes) ∧ Below w.heap.size w wr) (fun _ i _ => xs.length - (intOf i).toNat)
  case atStart => exact ⟨0, by omega, rfl, by simpa using h2, hb1⟩
  case round =>
    obtain ⟨k, hk, rfl, ho, hbw⟩ := hrel
    have hsz := hbw.size
    by_cases hlt : k < xs.length
    · obtain ⟨ad, rfl, hab, hcell⟩ := (hr.below hbw).look (k := k) (u := sv xs[k]) (by simp [hlt])
      have hfl := Wm.flat_take_len Wm.encBytes xs k
      have hfl1 := Wm.flat_take_len Wm.encBytes xs (k + 1)
      rw [Wm.take_flat Wm.encBytes xs k xs[k] (List.getElem?_eq_getElem hlt), List.length_append] at hfl1
      have hle : xs[k].length ≤ (Wm.encBytes xs[k]).length := by simp [Wm.encBytes]
      have htf := Lib.hid (Wm.take_flat Wm.encBytes xs k xs[k] (List.getElem?_eq_getElem hlt))
      have HA := Lib.hid (appendBytes_any w.heap.size u5 _ xs[k] wr ho hsz (by rw [List.length_append]; omega))
      clear hfl hfl1 hle
      unfold sv at hcell HA
      generalize bs xs[k] = S at hcell HA
      go_wp2_with fail
      refine HA.out.mono ?_
      rintro e w2 ⟨v2, rfl, ho2, hb2⟩
      go_wp2
      go_roundw
      case rel => exact ⟨k + 1, by omega, by go_num, by rw [htf.out, ← List.append_assoc]; exact ho2, hbw.trans hb2⟩
      case measure => simp [intOf]; omega
    · go_wp2
      go_ret
      refine ⟨_, rfl, ?_, hbw⟩
      rw [List.take_of_length_le (by omega)] at ho
      exact ho

/-! ### digests -/
def dv (d : List UInt8) : Value := .agg (d.map bv).toArray
theorem arrDig : Try.prog.underlying 57 = some (.array 16 5) := by kernel_rfl
theorem sizeDig : (Try.prog.info? 57).map (·.size) = some 16 := by kernel_rfl

set_option maxRecDepth 100000 in
set_option maxHeartbeats 1000000 in
theorem appendDigest_any (base : Nat) (v : Value) (xs d : List UInt8) (w : World) (hown : OwnB w base v xs) (hb : base ≤ w.heap.size) (hd : d.length = 16) (hlen : xs.length ≤ 140737488350000) :
    Calls Try.prog 43 #[v, dv d] w (MoreEnd base (xs ++ d) w) := by
  have hr := Rds.new w (d.map bv) 57
  unfold dv
  go_enter Try.func43, Try.ntmps43
  go_wp2_with (at_builtin; go_must (refine push_bytes rfl _ _ rfl base v xs d _ _ 16 16 hd.symm (by simp) rfl rfl hr (World.ownsRow.alloc hown _) (by omega) (by simp; omega) ?_); intro v2 w2 ho2 hb2)
  go_ret
  exact ⟨_, rfl, ho2, ((Below.refl _ _).alloc hb _).trans hb2⟩

theorem flat_dig {xs : List (List UInt8)} (h : ∀ d ∈ xs, d.length = 16) : (xs.flatMap id).length = 16 * xs.length := by
  induction xs with
  | nil => simp
  | cons d xs ih =>
    have h1 := h d (by simp)
    have h2 := ih (fun y hy => h y (by simp [hy]))
    rw [List.flatMap_cons, List.length_append, List.length_cons, id, h1, h2]
    omega
/-- The k-th digest's cells, in the row of all. -/
theorem Rds.dig {w : World} {B : Nat} {A : Option Addr} {xs : List (List UInt8)} (hr : Rds w B A ((xs.flatMap id).map bv)) (h : ∀ d ∈ xs, d.length = 16) {k : Nat} (hk : k < xs.length) :
    ∃ ad, A = some ad ∧ ad.block < B ∧ ∀ j v, (xs[k].map bv)[j]? = some v → w.cell? ((ad.add (k * 16)).add j) = some v := by
  have hlen := flat_dig h
  have hpos : (xs.flatMap id).map bv ≠ [] := by
    intro h0
    have := congrArg List.length h0
    rw [List.length_map, hlen, List.length_nil] at this
    omega
  obtain ⟨ad, e, hb, hc⟩ := hr hpos
  refine ⟨ad, e, hb, fun j v hv => ?_⟩
  rw [add_twice]
  apply hc
  have e1 : xs.flatMap id = (xs.take k).flatMap id ++ xs[k] ++ (xs.drop (k + 1)).flatMap id := by
    show _ = (xs.take k).flatMap id ++ id xs[k] ++ (xs.drop (k + 1)).flatMap id
    rw [← Wm.take_flat id xs k xs[k] (List.getElem?_eq_getElem hk), ← List.flatMap_append, List.take_append_drop]
  have hl0 : ((xs.take k).flatMap id).length = k * 16 := by
    rw [flat_dig (fun d hd => h d (List.mem_of_mem_take hd)), List.length_take]
    omega
  have hj : j < xs[k].length := by
    rcases Nat.lt_or_ge j xs[k].length with hj | hj
    · exact hj
    · rw [List.getElem?_eq_none (by simpa using hj)] at hv; cases hv
  rw [e1, List.map_append, List.map_append, List.getElem?_append_left (by rw [List.length_append, List.length_map, List.length_map, hl0]; omega), List.getElem?_append_right (by rw [List.length_map, hl0]; omega), ← hv, List.length_map, hl0]
  congr 1
  omega

set_option maxRecDepth 100000 in
set_option maxHeartbeats 1000000 in
theorem list_dig (xs : List (List UInt8)) (A : Option Addr) (c : Nat) (w : World) (hr : Rds w w.heap.size A ((xs.flatMap id).map bv)) (hl : xs.length ≤ 1000000000000) (hd : ∀ d ∈ xs, d.length = 16) :
    Calls Try.prog 42 #[.slice A xs.length c, .func (.func 43) #[] #[]] w (NewEnd (Wm.encList id xs) w) := by
  have H := Lib.hid (appendInt_any w.heap.size (.slice none 0 0) [] (xs.length : Int) w (ownB_nil w _) (Nat.le_refl _) ⟨by omega, by omega⟩ (by simp))
  have hel := Wm.enc_len xs.length
  have hD := Lib.hid hd
  clear hd
  go_enter Try.func42, Try.ntmps42
  go_wp2_with fail
  refine H.out.mono ?_
  rintro e w1 ⟨v1, rfl, h2, h3⟩
  have hb1 := h3.below (ownB_nil w _) (Nat.le_refl _)
  go_wp2
  go_loopw [5, 13] (fun b i wr => ∃ k : Nat, k ≤ xs.length ∧ i = .int .i64 k ∧ OwnB wr w.heap.size b (Wm.enc xs.length ++ (xs.take k).flatMap id) ∧ Below w.heap.size w wr) (fun _ i _ => xs.length - (intOf i).toNat)
  case atStart => exact ⟨0, by omega, rfl, by simpa using h2, hb1⟩
  case round =>
    obtain ⟨k, hk, rfl, ho, hbw⟩ := hrel
    have hsz := hbw.size
    by_cases hlt : k < xs.length
    · obtain ⟨ad, rfl, hab, hcell0⟩ := (hr.below hbw).dig hD.out hlt
      have hcell := Lib.hid hcell0
      have hfl : ((xs.take k).flatMap id).length ≤ 16 * k := by
        rw [flat_dig (fun d hd => hD.out d (List.mem_of_mem_take hd)), List.length_take]; omega
      have hfk := Lib.hid (hD.out xs[k] (List.getElem_mem hlt))
      have htf := Lib.hid (Wm.take_flat id xs k xs[k] (List.getElem?_eq_getElem hlt))
      clear hcell0
      generalize xs[k] = d at hcell hfk htf
      have hsd : (Try.prog.info? 57).map (·.size) = some (d.map bv).length := by rw [List.length_map, hfk.out]; exact sizeDig
      have HSD := Lib.hid hsd
      have HA := Lib.hid (fun W h1 h2 => appendDigest_any w.heap.size u5 (Wm.enc xs.length ++ (xs.take k).flatMap id) d W h1 h2 hfk.out (by rw [List.length_append]; omega))
      clear hfl hsd
      have hone : (d.map bv).toArray.all (·.oneCell') = true := by
        rw [List.all_toArray, List.all_eq_true]
        intro x hx
        obtain ⟨b, _, rfl⟩ := List.mem_map.1 hx
        rfl
      have hnew : Hid (∀ j v, (d.map bv)[j]? = some v → (wr.alloc (.cells (d.map bv).toArray 57)).cell? ((⟨wr.heap.size, 0, none⟩ : Addr).add j) = some v) := by
        intro j v hv
        obtain ⟨ad', he, _, hc⟩ := (Rds.new wr (d.map bv) 57).look hv
        injection he with he
        subst he
        exact hc
      have hsa : Hid ((Try.prog.info? 57).map (·.size) = some (d.map bv).toArray.size) := by show _ = _; rw [List.size_toArray]; exact HSD.out
      have hs16 : Hid (16 = (d.map bv).toArray.size) := by show _ = _; rw [List.size_toArray, List.length_map, hfk.out]
      have HONE := Lib.hid hone
      clear hone
      go_wp2_with (first | (refine wpList_load_arr rfl 57 _ rfl (ad.add (k * 16)) rfl (d.map bv) 16 5 hcell.out arrDig HSD.out ?_) | (refine wpList_store_new rfl 57 _ _ rfl rfl _ _ rfl hsa.out hs16.out HONE.out ?_) | (refine wpList_load_arr rfl 57 _ rfl ⟨wr.heap.size, 0, none⟩ rfl (d.map bv) 16 5 hnew.out arrDig HSD.out ?_) | (go_at_call 43; go_must (refine (HA.out _ (World.ownsRow.alloc ho _) (by simp; omega)).mono ?_); rintro e w2 ⟨v2, rfl, ho2, hb2⟩))
      go_roundw
      case rel => exact ⟨k + 1, by omega, by go_num, by rw [htf.out, ← List.append_assoc]; exact ho2, hbw.trans (((Below.refl _ _).alloc hsz _).trans hb2)⟩
      case measure => simp [intOf]; omega
    · go_wp2
      go_ret
      refine ⟨_, rfl, ?_, hbw⟩
      rw [List.take_of_length_le (by omega)] at ho
      exact ho
end Go.Proofs.Ythnbiegpfjnadaa
