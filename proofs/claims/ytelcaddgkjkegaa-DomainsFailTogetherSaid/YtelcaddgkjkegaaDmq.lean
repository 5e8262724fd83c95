/-
  Stage 10 (domain): slices.Clone over integers and racks; clone.
-/
import Derived.Test.YtelcaddgkjkegaaDmk
import Derived.Maps.AppendAt
namespace Go.Proofs.Ytelcaddgkjkegaa
set_option linter.unusedVariables false
set_option linter.unusedSimpArgs false
open Go.RowKit

theorem eqlN_nil {P : Program} (t e : TypeId) (a : Option Addr) (l c : Nat) (h : P.underlying t = some (.slice e)) (W : World) : (binOp .eql t (.slice a l c) (.slice none 0 0)).run P W = .ok (.bool a.isNone) W := by
  simp only [binOp]
  simp [run_equal_slice_nil W t e a l c h]
theorem infoR : (Try.prog.info? 42).map (fun i => (i.zero, i.size, i.bytes)) = some (some (.agg #[.int .i64 0, .bool false]), 2, 16) := by kernel_rfl
/-- The racks R are a row of the call's own. -/
def OwnR (w : World) (base : Nat) (v : Value) (R : List (Int × Bool)) : Prop := w.ownsRow base 42 2 v R.length (rflat R)
theorem ownR_nil (w : World) (base : Nat) : OwnR w base (.slice none 0 0) [] := World.ownsRow_nil w base _ _
theorem OwnR.keep {w w' : World} {base : Nat} {v : Value} {l : List (Int × Bool)} (h : OwnR w base v l) (hb : Below w.heap.size w w') : OwnR w' base v l := by
  unfold OwnR
  cases hk : v.ownBlock with
  | none => exact World.ownsRow.kept h (grown_none hb none) (.inl hk)
  | some k => exact World.ownsRow.kept h (grown_none hb none) (.inr (by rw [hk]; simp))
theorem OwnR.lower {w : World} {base base' : Nat} {v : Value} {l : List (Int × Bool)} (h : OwnR w base v l) (hb : base' ≤ base) : OwnR w base' v l :=
  ⟨h.1, h.2.imp id fun ⟨g, cap, cur, h1, h2, h3⟩ => ⟨g, cap, cur, h1, Nat.le_trans hb h2, h3⟩⟩
theorem ownZ_made (w : World) (base : Nat) (hb : base ≤ w.heap.size) : OwnZ (w.alloc (.cells #[] 3)) base (.slice (some ⟨w.heap.size, 0, none⟩) 0 0) [] :=
  ⟨rfl, .inr ⟨w.heap.size, 0, #[], rfl, hb, heap_alloc_new w _, Nat.le_refl _, Nat.zero_le _, rfl, rfl⟩⟩
theorem ownR_made (w : World) (base : Nat) (hb : base ≤ w.heap.size) : OwnR (w.alloc (.cells #[] 42)) base (.slice (some ⟨w.heap.size, 0, none⟩) 0 0) [] :=
  ⟨rfl, .inr ⟨w.heap.size, 0, #[], rfl, hb, heap_alloc_new w _, Nat.le_refl _, Nat.zero_le _, rfl, rfl⟩⟩
theorem one_rflat (R : List (Int × Bool)) : ∀ u ∈ rflat R, u.oneCell' = true := by
  intro u hu
  unfold rflat at hu
  obtain ⟨r, _, hr⟩ := List.mem_flatMap.1 hu
  simp [rv, iv] at hr
  rcases hr with rfl | rfl <;> rfl

section
variable {w : World} {ops : Array Oper} {rest : List Oper} {o : Oper} {a : Act} {Q : Exit → Act → World → Prop}
theorem push_zs (hgd : o.guard = none) (sl x : Operand)
    (ho : o.op = .call { callee := .builtin .append, args := #[sl, x], argTypes := #[22, 22] })
    (base : Nat) (v : Value) (M L : List Int) (B : Nat) (A : Option Addr) (n c : Nat) (hn : n = L.length) (hA : A = none → c = 0) (hs : a.eval sl = v) (hx : a.eval x = .slice A n c)
    (hr : Rds w B A (L.map iv)) (hown : OwnZ w base v M) (hlen : M.length + L.length ≤ 1000000000000) (hbase : base ≤ w.heap.size)
    (h : ∀ v' w', OwnZ w' base v' (M ++ L) → Below base w w' → w.grownBy w' v.ownBlock → (v'.ownBlock = v.ownBlock ∨ v'.ownBlock = some w.heap.size) → wpList Try.prog ops Q rest (a.put o.dst v') w') :
    wpList Try.prog ops Q (o :: rest) a w := by
  subst hn
  obtain ⟨i0, hi, hz0, hz1, hz2⟩ := info_parts infoZ
  cases A with
  | none =>
    have hl : L = [] := by
      by_cases hl : L = []
      · exact hl
      · obtain ⟨ad, hh, _⟩ := hr (by simpa using hl)
        cases hh
    subst hl
    rw [hA rfl] at hx
    refine wpList_plain hgd fun K hK => ?_
    have hrun := run_append_owned_none (P := Try.prog) w base 22 o.type 3 i0 1 Try.underlying22 hi v M.length _ hown
    unfold Oper.wp execOp
    simp only [ho, resolve, invoke, builtin, Sem.run_bind, Sem.run_pure, Result.andThen_ok, List.map_toArray, List.map_cons, List.map_nil, hs, hx, List.length_nil, hrun]
    exact hK _ _ (h v w (by simpa using hown) (Below.refl _ _) (World.grownBy.refl w _) (.inl rfl))
  | some ad =>
    have hcell : ∀ j u, (L.map iv)[j]? = some u → w.cell? (ad.add j) = some u := by
      intro j u hu
      obtain ⟨ad', he, _, hc⟩ := hr.look hu
      injection he with he
      subst he
      exact hc
    refine wpList_append_own_at w hgd sl x 22 ho base 3 i0 _ 1 8 Try.underlying22 hi hz0 hz1 hz2 rfl (by decide) v M.length _ hs hown ad L.length c (L.map iv) hx (by rw [List.length_map]; omega) hcell
      (by intro u hu; obtain ⟨b, _, rfl⟩ := List.mem_map.1 hu; rfl) (by unfold maxLen; omega) (by omega) hbase ?_
    intro v' w' h2 h3 _ h5
    refine h v' w' ?_ ((Below.refl _ _).grown h3 hbase fun _ hk => (hown.lt _ hk).1) h3 h5
    unfold OwnZ
    rw [List.length_append, List.map_append]
    exact h2
theorem push_rs (hgd : o.guard = none) (sl x : Operand)
    (ho : o.op = .call { callee := .builtin .append, args := #[sl, x], argTypes := #[23, 23] })
    (base : Nat) (v : Value) (M L : List (Int × Bool)) (B : Nat) (A : Option Addr) (n c : Nat) (hn : n = L.length) (hA : A = none → c = 0) (hs : a.eval sl = v) (hx : a.eval x = .slice A n c)
    (hr : Rds w B A (rflat L)) (hown : OwnR w base v M) (hlen : M.length + L.length ≤ 1000000000000) (hbase : base ≤ w.heap.size)
    (h : ∀ v' w', OwnR w' base v' (M ++ L) → Below base w w' → w.grownBy w' v.ownBlock → (v'.ownBlock = v.ownBlock ∨ v'.ownBlock = some w.heap.size) → wpList Try.prog ops Q rest (a.put o.dst v') w') :
    wpList Try.prog ops Q (o :: rest) a w := by
  subst hn
  obtain ⟨i0, hi, hz0, hz1, hz2⟩ := info_parts infoR
  cases A with
  | none =>
    have hl : L = [] := by
      cases L with
      | nil => rfl
      | cons r L =>
        obtain ⟨ad, hh, _⟩ := hr (by simp [rflat, rv])
        cases hh
    subst hl
    rw [hA rfl] at hx
    refine wpList_plain hgd fun K hK => ?_
    have hrun := run_append_owned_none (P := Try.prog) w base 23 o.type 42 i0 2 Try.underlying23 hi v M.length _ hown
    unfold Oper.wp execOp
    simp only [ho, resolve, invoke, builtin, Sem.run_bind, Sem.run_pure, Result.andThen_ok, List.map_toArray, List.map_cons, List.map_nil, hs, hx, List.length_nil, hrun]
    exact hK _ _ (h v w (by simpa using hown) (Below.refl _ _) (World.grownBy.refl w _) (.inl rfl))
  | some ad =>
    have hcell : ∀ j u, (rflat L)[j]? = some u → w.cell? (ad.add j) = some u := by
      intro j u hu
      obtain ⟨ad', he, _, hc⟩ := hr.look hu
      injection he with he
      subst he
      exact hc
    refine wpList_append_own_at w hgd sl x 23 ho base 42 i0 _ 2 16 Try.underlying23 hi hz0 hz1 hz2 rfl (by decide) v M.length _ hs hown ad L.length c (rflat L) hx (rflat_len L) hcell
      (one_rflat L) (by unfold maxLen; omega) (by omega) hbase ?_
    intro v' w' h2 h3 _ h5
    refine h v' w' ?_ ((Below.refl _ _).grown h3 hbase fun _ hk => (hown.lt _ hk).1) h3 h5
    unfold OwnR rflat at *
    rw [List.length_append, List.flatMap_append]
    exact h2
end

set_option maxRecDepth 100000 in
set_option maxHeartbeats 1000000 in
theorem cloneZ_any {B : Nat} (L : List Int) (A : Option Addr) (n c : Nat) (w : World) (hn : n = L.length) (hA : Rds w B A (L.map iv)) (hB : B ≤ w.heap.size) (hAn : A = none → c = 0) (hl : n ≤ 1000000) :
    Calls Try.prog 39 #[.slice A n c] w fun e w' => ∃ v, e = .returned v ∧ OwnZ w' w.heap.size v L ∧ Below w.heap.size w w' := by
  cases A with
  | none =>
    have hl0 : L = [] := by
      by_cases hl : L = []
      · exact hl
      · obtain ⟨ad, hh, _⟩ := hA (by simpa using hl)
        cases hh
    subst hl0
    obtain rfl : n = 0 := hn
    obtain rfl : c = 0 := hAn rfl
    have hO := ownZ_nil w w.heap.size
    have hE := eqlN_nil (P := Try.prog) 22 3 none 0 0 Try.underlying22
    clear hA hAn
    go_enter Try.func39, Try.ntmps39
    go_wp2_with fail
    go_ret
    exact ⟨_, rfl, hO, Below.refl _ _⟩
  | some ad =>
    have hb1 : Below w.heap.size w (w.alloc (.cells #[] 3)) := (Below.refl w.heap.size w).alloc (Nat.le_refl _) _
    have hO' := Lib.hid (ownZ_made w w.heap.size (Nat.le_refl _))
    have hA1' := Lib.hid (hA.below (hb1.mono hB))
    have hb1' := Lib.hid hb1
    have hs1' : Hid (w.heap.size ≤ (w.alloc (.cells #[] 3)).heap.size) := by show _ ≤ _; simp
    have hn' := Lib.hid hn
    have hll : Hid (([] : List Int).length + L.length ≤ 1000000000000) := by show _ ≤ _; rw [← hn]; simp; omega
    have hE : ∀ W, (binOp .eql 22 (.slice (some ad) n c) (.slice none 0 0)).run Try.prog W = .ok (.bool false) W := eqlN_nil (P := Try.prog) 22 3 (some ad) n c Try.underlying22
    clear hb1 hA hAn hn
    go_enter Try.func39, Try.ntmps39
    go_wp2_with (refine push_zs rfl _ _ rfl w.heap.size _ [] L _ (some ad) n c hn'.out (fun h => by cases h) rfl rfl hA1'.out hO'.out hll.out hs1'.out ?_; intro v4 w4 ho4 hb4 hgr4 hob4)
    rw [List.nil_append] at ho4
    have hend := hb1'.out.trans hb4
    go_ret
    exact ⟨_, rfl, ho4, hend⟩

set_option maxRecDepth 100000 in
set_option maxHeartbeats 1000000 in
theorem cloneR_any {B : Nat} (L : List (Int × Bool)) (A : Option Addr) (n c : Nat) (w : World) (hn : n = L.length) (hA : Rds w B A (rflat L)) (hB : B ≤ w.heap.size) (hAn : A = none → c = 0) (hl : n ≤ 1000000) :
    Calls Try.prog 40 #[.slice A n c] w fun e w' => ∃ v, e = .returned v ∧ OwnR w' w.heap.size v L ∧ Below w.heap.size w w' := by
  cases A with
  | none =>
    have hl0 : L = [] := by
      cases L with
      | nil => rfl
      | cons r L =>
        obtain ⟨ad, hh, _⟩ := hA (by simp [rflat, rv])
        cases hh
    subst hl0
    obtain rfl : n = 0 := hn
    obtain rfl : c = 0 := hAn rfl
    have hO := ownR_nil w w.heap.size
    have hE := eqlN_nil (P := Try.prog) 23 42 none 0 0 Try.underlying23
    clear hA hAn
    go_enter Try.func40, Try.ntmps40
    go_wp2_with fail
    go_ret
    exact ⟨_, rfl, hO, Below.refl _ _⟩
  | some ad =>
    have hb1 : Below w.heap.size w (w.alloc (.cells #[] 42)) := (Below.refl w.heap.size w).alloc (Nat.le_refl _) _
    have hO' := Lib.hid (ownR_made w w.heap.size (Nat.le_refl _))
    have hA1' := Lib.hid (hA.below (hb1.mono hB))
    have hb1' := Lib.hid hb1
    have hs1' : Hid (w.heap.size ≤ (w.alloc (.cells #[] 42)).heap.size) := by show _ ≤ _; simp
    have hn' := Lib.hid hn
    have hll : Hid (([] : List (Int × Bool)).length + L.length ≤ 1000000000000) := by show _ ≤ _; rw [← hn]; simp; omega
    have hE : ∀ W, (binOp .eql 23 (.slice (some ad) n c) (.slice none 0 0)).run Try.prog W = .ok (.bool false) W := eqlN_nil (P := Try.prog) 23 42 (some ad) n c Try.underlying23
    clear hb1 hA hAn hn
    go_enter Try.func40, Try.ntmps40
    go_wp2_with (refine push_rs rfl _ _ rfl w.heap.size _ [] L _ (some ad) n c hn'.out (fun h => by cases h) rfl rfl hA1'.out hO'.out hll.out hs1'.out ?_; intro v4 w4 ho4 hb4 hgr4 hob4)
    rw [List.nil_append] at ho4
    have hend := hb1'.out.trans hb4
    go_ret
    exact ⟨_, rfl, ho4, hend⟩
end Go.Proofs.Ytelcaddgkjkegaa
