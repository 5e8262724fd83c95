/-
  Contracts of stage 3: Inclusion, by a closure that calls itself. Contracts of stage 3: Inclusion. Contracts of stage 3: Consistency, by a closure that calls itself. Contracts of stage 3: Consistency.
-/
import Derived.Test.YtlgokfgiemaklaaDoorMka
import Derived.Test.YtlgokfgiemaklaaDoorRg
namespace Go.Proofs.YtlgokfgiemaklaaDoor
set_option linter.unusedVariables false
set_option linter.unusedSimpArgs false
open Go.RowKit

theorem infoDg : (Tryd.prog.info? 31).map (fun i => (i.zero, i.size, i.bytes)) = some (some (.agg #[.int .u8 0, .int .u8 0, .int .u8 0, .int .u8 0, .int .u8 0, .int .u8 0, .int .u8 0, .int .u8 0, .int .u8 0, .int .u8 0, .int .u8 0, .int .u8 0, .int .u8 0, .int .u8 0, .int .u8 0, .int .u8 0]), 16, 16) := by kernel_rfl
theorem size_slice : (Tryd.prog.info? 22).map (·.size) = some 1 := by kernel_rfl
/-- The digests L are a row of the call's own, from block 'base' on. -/
def OwnD (w : World) (base : Nat) (v : Value) (L : List (List UInt8)) : Prop := w.ownsRow base 31 16 v L.length ((flat L).map bv)
theorem ownD_nil (w : World) (base : Nat) : OwnD w base (.slice none 0 0) [] := World.ownsRow_nil w base _ _
theorem OwnD.below {w w' : World} {base B : Nat} {v : Value} {L : List (List UInt8)} (h : OwnD w base v L) (hb : Below B w w') (hB : w.heap.size ≤ B) : OwnD w' base v L := by
  refine ⟨h.1, ?_⟩
  rcases h.2 with hn | ⟨g, cap, cur, rfl, hg, hh, rest⟩
  · exact .inl hn
  · refine .inr ⟨g, cap, cur, rfl, hg, ?_, rest⟩
    rw [hb.block g (Nat.lt_of_lt_of_le (Array.getElem?_eq_some_iff.1 hh).1 hB)]
    exact hh
theorem OwnD.only {w w' : World} {base k : Nat} {v : Value} {L : List (List UInt8)} (h : OwnD w base v L) (ho : Only k w w') (hk : k < base) : OwnD w' base v L := by
  refine ⟨h.1, ?_⟩
  rcases h.2 with hn | ⟨g, cap, cur, rfl, hg, hh, rest⟩
  · exact .inl hn
  · refine .inr ⟨g, cap, cur, rfl, hg, ?_, rest⟩
    rw [ho.block g (by omega)]
    exact hh
theorem OwnD.form {w : World} {base : Nat} {v : Value} {L : List (List UInt8)} (h : OwnD w base v L) : ∃ A c, v = .slice A L.length c ∧ L.length ≤ c ∧ c ≤ maxLen ∧ (A = none → c = 0) ∧ Dg w A L := own_form h
theorem build_dg (d : List UInt8) (hd : d.length = 16) : ∀ W, (Instr.buildSlice 22 1 #[(0, .agg (d.map bv).toArray)]).run Tryd.prog W = .ok (.slice (some ⟨W.heap.size, 0, none⟩) 1 1) (W.alloc (.cells (d.map bv).toArray 31)) := fun W => by
  obtain ⟨i0, hi, hz0, hz1, hz2⟩ := info_parts infoDg
  have hs : (d.map bv).toArray.size = 16 := by rw [List.size_toArray, List.length_map, hd]
  exact run_buildSlice_arr W 22 31 i0 _ Tryd.underlying22 hi hz0 _ (by rw [hz1, hs]) (by omega) (by omega)
theorem step_build_dg {w : World} {ops : Array Oper} {rest : List Oper} {o : Oper} {a : Act} {Q : Exit → Act → World → Prop} (hgd : o.guard = none) (x : Operand) (ho : o.op = .buildSlice 22 1 #[(0, x)])
    (d : List UInt8) (hd : d.length = 16) (hx : a.eval x = .agg (d.map bv).toArray)
    (h : wpList Tryd.prog ops Q rest (a.put o.dst (.slice (some ⟨w.heap.size, 0, none⟩) 1 1)) (w.alloc (.cells (d.map bv).toArray 31))) : wpList Tryd.prog ops Q (o :: rest) a w :=
  wpList_buildSlice_one hgd 22 x ho _ _ hx (build_dg d hd w) h
theorem cells_new (w : World) (d : List UInt8) (t : TypeId) : ∀ j v, (d.map bv)[j]? = some v → (w.alloc (.cells (d.map bv).toArray t)).cell? ((⟨w.heap.size, 0, none⟩ : Addr).add j) = some v := by
  intro j v hv
  obtain ⟨ad', he, _, hc⟩ := (Rds.new w (d.map bv) t).look hv
  injection he with he
  subst he
  exact hc
/-- 'l = append(l, d)', d a digest: the walk's step. -/
theorem push_dg {w0 : World} {ops : Array Oper} {rest : List Oper} {o : Oper} {a : Act} {Q : Exit → Act → World → Prop} (hgd : o.guard = none) (s x : Operand)
    (ho : o.op = .call { callee := .builtin .append, args := #[s, x], argTypes := #[22, 22] })
    (base : Nat) (v : Value) (L : List (List UInt8)) (d : List UInt8) (hd : d.length = 16) (hs : a.eval s = v) (m : Nat) (hx : a.eval x = .slice (some ⟨m, 0, none⟩) 1 1) (hm : m = w0.heap.size)
    (hown : OwnD w0 base v L) (hlen : L.length ≤ 1000000000000) (hbase : base ≤ w0.heap.size)
    (h : ∀ v' w', OwnD w' base v' (L ++ [d]) → Below base w0 w' → wpList Tryd.prog ops Q rest (a.put o.dst v') w') :
    wpList Tryd.prog ops Q (o :: rest) a (w0.alloc (.cells (d.map bv).toArray 31)) := by
  subst hm
  obtain ⟨i0, hi, hz0, hz1, hz2⟩ := info_parts infoDg
  refine wpList_append_own_at _ hgd s x 22 ho base 31 i0 _ 16 16 Tryd.underlying22 hi hz0 hz1 hz2 rfl (by decide) v L.length _ hs (World.ownsRow.alloc hown _) ⟨w0.heap.size, 0, none⟩ 1 1 (d.map bv) hx (by rw [List.length_map, hd]) (cells_new w0 d _)
    (by intro u hu; obtain ⟨b, _, rfl⟩ := List.mem_map.1 hu; rfl) (by unfold maxLen; omega) (by omega) (by simp; omega) ?_
  intro v' w' h2 h3 _ _
  refine h v' w' ?_ (((Below.refl _ _).alloc hbase _).grown h3 (by simp; omega) fun _ hk => (hown.lt _ hk).1)
  unfold OwnD
  rw [List.length_append, flat_append, flat_one, List.map_append]
  exact h2

def inc (L : List (List UInt8)) (i : Nat) : List (List UInt8) := Mk.incl nd emp L i
theorem inc_len (N : Nat) : ∀ (L : List (List UInt8)) (i : Nat), L.length ≤ N → (inc L i).length ≤ N := by
  induction N with
  | zero => intro L i h; unfold inc; rw [Mk.incl_one nd emp (by omega)]; simp
  | succ N ih =>
    intro L i h
    by_cases h2 : 2 ≤ L.length
    · have a := Mk.ksz_lt h2
      have b := Mk.ksz_pos L.length
      by_cases hi : i < Mk.ksz L.length
      · have := ih (L.take (Mk.ksz L.length)) i (by rw [List.length_take]; omega)
        unfold inc at this ⊢
        rw [Mk.incl_left nd emp h2 hi, List.length_append]
        simp
        omega
      · have := ih (L.drop (Mk.ksz L.length)) (i - Mk.ksz L.length) (by rw [List.length_drop]; omega)
        unfold inc at this ⊢
        rw [Mk.incl_right nd emp h2 hi, List.length_append]
        simp
        omega
    · unfold inc; rw [Mk.incl_one nd emp (by omega)]; simp

/-- What the closures of this layer are: the function F with what it captured. -/
def cl2 (f p q : Nat) : Value := .func (.func f) #[] #[.pointer (some ⟨p, 0, none⟩), .pointer (some ⟨q, 0, none⟩)]
/-- The variables of a proof that is being made: the closure in block p, the proof so far in block q. -/
structure Mkg (w : World) (B p q : Nat) (F : Value) (tf : TypeId) (P : List (List UInt8)) : Prop where
  fn : Blk w p [F] tf
  own : ∃ v, Blk w q [v] 22 ∧ OwnD w B v P
theorem Mkg.on {w w' : World} {B p q : Nat} {F : Value} {tf : TypeId} {P : List (List UInt8)} (h : Mkg w B p q F tf P) (hb : Below w.heap.size w w') : Mkg w' B p q F tf P := by
  obtain ⟨h1, v, h2, h3⟩ := h
  exact ⟨h1.below hb h1.lt, v, h2.below hb h2.lt, h3.below hb (Nat.le_refl _)⟩

theorem rds_take {w : World} {B : Nat} {A : Option Addr} {L : List (List UInt8)} (h : Rds w B A ((flat L).map bv)) (hd : D16 L) (k : Nat) : Rds w B A ((flat (L.take k)).map bv) := by
  have := Rds.take h (16 * k)
  rw [← List.map_take, flat_take hd] at this
  exact this
theorem rds_drop {w : World} {B : Nat} {ad : Addr} {L : List (List UInt8)} (h : Rds w B (some ad) ((flat L).map bv)) (hd : D16 L) (k : Nat) : Rds w B (some (ad.add (16 * k))) ((flat (L.drop k)).map bv) := by
  have := Rds.drop h (16 * k)
  rw [← List.map_drop, flat_drop hd] at this
  exact this
theorem slice_one (A : Option Addr) (n c : Nat) : ∀ u ∈ (Value.slice A n c).cells.toList, u.oneCell' = true := by
  intro u hu
  have hu' : u ∈ [Value.slice A n c] := hu
  simp only [List.mem_singleton] at hu'
  subst hu'
  rfl

set_option maxRecDepth 100000 in
set_option maxHeartbeats 4000000 in
theorem incl_up (B0 B p q : Nat) (hp : B0 ≤ p) (hq : B0 ≤ q) (hpB : p < B) (hqB : q < B) (hpq : p ≠ q) (hg : 2 < B0) (N : Nat) : ∀ (L : List (List UInt8)) (ad : Addr) (c i : Nat) (P : List (List UInt8)) (w : World), L.length ≤ N → 1 ≤ L.length → D16 L → L.length ≤ c → L.length ≤ 1000000 → i < L.length → P.length ≤ 1000000 → Rds w B0 (some ad) ((flat L).map bv) → Mkg w B p q (cl2 32 p q) 64 P → B0 ≤ w.heap.size → B ≤ w.heap.size → Tab 2 w →
    Calls Tryd.prog 32 #[.slice (some ad) L.length c, .int .i64 i, .pointer (some ⟨p, 0, none⟩), .pointer (some ⟨q, 0, none⟩)] w fun e w' => e = .returned (.tuple #[]) ∧ Mkg w' B p q (cl2 32 p q) 64 (P ++ inc L i) ∧ Below B0 w w' := by
  induction N with
  | zero => intro L ad c i P w hl h1; omega
  | succ N ih =>
    intro L ad c i P w hl h1 hd hc h6 hi hP hr hM hB0 hB ht
    by_cases h2 : 2 ≤ L.length
    · obtain ⟨k, hk⟩ : ∃ k, k = Mk.ksz L.length := ⟨_, rfl⟩
      have hkn : k < L.length := by rw [hk]; exact Mk.ksz_lt h2
      have hkp : 0 < k := by rw [hk]; exact Mk.ksz_pos _
      have HP := Lib.hid (fun W => parts_any L.length k c ad W hk h2 (by omega) hc)
      have l1 : (L.take k).length = k := by rw [List.length_take]; omega
      have l2 : (L.drop k).length = L.length - k := List.length_drop ..
      have r1 := rt_len (hd.take k)
      have r2 := rt_len (hd.drop k)
      have t0 : ((L.length : Int) == 1) = false := by simp; omega
      have hr' := Lib.hid hr
      have hT := Lib.hid ht
      have hgB : Hid (∀ W, Below B0 w W → Tab 2 W) := fun W hb => ht.below hb hg
      have hrA : Hid (∀ W, Below B0 w W → Rds W B0 (some ad) ((flat (L.take k)).map bv)) := fun W hb => rds_take (hr.below hb) hd k
      have hrB : Hid (∀ W, Below B0 w W → Rds W B0 (some (ad.add (16 * k))) ((flat (L.drop k)).map bv)) := fun W hb => rds_drop (hr.below hb) hd k
      have hpq' := Lib.hid hpq
      have hqp' : Hid (q ≠ p) := fun h => hpq h.symm
      by_cases hik : i < k
      · have hinc : Hid (inc L i = inc (L.take k) i ++ [rt (L.drop k)]) := by show _ = _; unfold inc rt; rw [hk] at hik ⊢; exact Mk.incl_left nd emp h2 hik
        rw [hinc.out]
        have hil := inc_len L.length (L.take k) i (by rw [l1]; omega)
        have I1 := Lib.hid (fun W h => ih (L.take k) ad k i P W (by omega) (by omega) (hd.take k) (by omega) (by omega) (by omega) hP (hrA.out W h))
        have HR := Lib.hid (fun W (h : Below B0 w W) hB0 => root_any (L.drop k) (some (ad.add (16 * k))) (L.length - k) W (hd.drop k) (by omega) (by omega) ((hrB.out W h).more hB0) (hgB.out W h))
        rw [l1] at I1
        rw [l2] at HR
        generalize rt (L.drop k) = R at HR r2 ⊢
        generalize inc (L.take k) i = Q at I1 hil ⊢
        have t2 : (i : Int) < (k : Int) := by omega
        have hPQ : (P ++ Q).length ≤ 1000000000000 := by rw [List.length_append]; omega
        obtain ⟨n, hn⟩ : ∃ n, n = L.length := ⟨_, rfl⟩
        rw [← hn] at HP HR t0 h6 hil hkn hi ⊢
        unfold av at HR
        clear hk hn l1 l2 hrA hrB r1 hinc hd hr ht hl h1 hc h2
        go_enter Tryd.func32, Tryd.ntmps32
        go_wp2_with fail
        refine (HP.out _).mono ?_
        rintro e w2 ⟨rfl, hb2⟩
        have M2 := hM.on hb2
        have cf := M2.fn.cell (j := 0) rfl
        unfold cl2 at cf
        have hB2 : Below B0 w w2 := hb2.mono hB0
        have M2' := Lib.hid M2
        clear hb2 hM M2
        go_wp2_with fail
        refine (I1.out _ hB2 M2'.out (Nat.le_trans hB0 hB2.size) (Nat.le_trans hB hB2.size) (hgB.out _ hB2)).mono ?_
        rintro e w3 ⟨rfl, M3, hb3⟩
        have hB3 : Below B0 w w3 := hB2.trans hb3
        obtain ⟨f3, v3, c3, o3⟩ := M3
        have f3' := Lib.hid f3
        have c3' := Lib.hid c3
        have o3' := Lib.hid o3
        have cq : ∀ x : ExtOf w3.drew, x.world.cell? ⟨q, 0, none⟩ = some v3 := fun x => (c3.below (x.below (Nat.le_refl _)) c3.lt).cell rfl
        clear hb3 hB2 M2' cf f3 c3 o3 I1 HP
        go_wp2_with fail
        refine wp_region_planM [4, 5] [(true, 0), (true, 1), (false, 2), (false, 3), (false, 4), (false, 5)] (by decide) (by kernel_rfl) (by kernel_rfl) (by decide) (by intro c a d v w h; cases d <;> exact h) ?_
        change wpPlanM _ _ _ _ _ _ w3.drew
        iterate 2 (refine wpPlanM_plain rfl (fun K hK => ?_); go_simp; refine hK _ ?_; clear hK K)
        refine wpPlanM_call rfl (fun K hK => ?_)
        go_wp2_with fail
        refine (HR.out _ hB3.drew (Nat.le_trans hB0 hB3.size)).mono ?_
        rintro e w4 ⟨rfl, hb4⟩
        go_wp2_with fail
        refine planPostL_normal ⟨.inr hb4, hK _ _ ?_⟩
        clear hK K
        have hb4 := drewBelow hb4
        have hB4 : Below B0 w w4 := hB3.trans (hb4.mono (Nat.le_trans hB0 hB3.size))
        have hf4 := Lib.hid (f3'.out.below hb4 f3'.out.lt)
        have hc4 := Lib.hid (c3'.out.below hb4 c3'.out.lt)
        have ho4 := o3'.out.below hb4 (Nat.le_refl _)
        have hBw4 : B ≤ w4.heap.size := Nat.le_trans hB hB4.size
        clear hb4 hB3 f3' c3' o3' HR cq
        refine wpPlanM_call rfl (fun K hK => ?_)
        refine step_build_dg rfl _ rfl R r2 rfl ?_
        have hx5 : Ext w4 (w4.alloc (.cells (R.map bv).toArray 31)) := (Below.refl _ _).alloc (Nat.le_refl _) _
        refine wpList_end (planPostL_normal ⟨.inr hx5, hK _ _ ?_⟩)
        clear hK K hx5
        refine wpPlanM_call rfl (fun K hK => ?_)
        refine push_dg rfl _ _ rfl B v3 (P ++ Q) R r2 rfl _ rfl rfl ho4 hPQ hBw4 ?_
        intro v5 w5 ho5 hb5
        refine wpList_end (planPostL_normal ⟨.inl (by decide), hK _ _ ?_⟩)
        clear hK K
        have hf5 := hf4.out.below hb5 hpB
        have hc5 := Lib.hid (hc4.out.below hb5 hqB)
        have hB5 : Below B0 w w5 := hB4.trans (hb5.mono (Nat.le_of_lt (Nat.lt_of_le_of_lt hp hpB)))
        obtain ⟨A5, c5, rfl, _, _, _, _⟩ := ho5.form
        have hso := slice_one A5 (P ++ Q ++ [R]).length c5
        rw [List.append_assoc] at ho5 hso ⊢
        generalize (P ++ (Q ++ [R])).length = m5 at ho5 hso ⊢
        clear hb5 hf4 hc4 ho4
        refine wpPlanM_call rfl (fun K hK => ?_)
        refine wpList_blk_store rfl 22 _ _ rfl 0 (.slice A5 m5 c5) rfl rfl hc5.out size_slice (Nat.le_of_eq rfl) hso ?_
        intro w6 hc6 ho6
        refine wpList_end (planPostL_normal ⟨.inl (by decide), hK _ _ ?_⟩)
        clear hK K
        refine wpPlanM_nil ?_
        go_wp2_with fail
        exact bodyPost_end (results_none rfl _ _ _) rfl ⟨rfl, ⟨hf5.only ho6 hpq'.out, ⟨_, hc6.out, ho5.only ho6 hqB⟩⟩, hB5.trans (ho6.below hq)⟩
      · have hinc : Hid (inc L i = inc (L.drop k) (i - k) ++ [rt (L.take k)]) := by show _ = _; unfold inc rt; rw [hk] at hik ⊢; exact Mk.incl_right nd emp h2 hik
        rw [hinc.out]
        have hil := inc_len L.length (L.drop k) (i - k) (by rw [l2]; omega)
        have I1 := Lib.hid (fun W h => ih (L.drop k) (ad.add (16 * k)) (L.length - k) (i - k) P W (by omega) (by omega) (hd.drop k) (by omega) (by omega) (by omega) hP (hrB.out W h))
        have HR := Lib.hid (fun W (h : Below B0 w W) hB0 => root_any (L.take k) (some ad) k W (hd.take k) (by omega) (by omega) ((hrA.out W h).more hB0) (hgB.out W h))
        rw [l2] at I1
        rw [l1] at HR
        generalize rt (L.take k) = R at HR r1 ⊢
        generalize inc (L.drop k) (i - k) = Q at I1 hil ⊢
        have t2 : ¬ (i : Int) < (k : Int) := by omega
        have e2 : (i : Int) - (k : Int) = ((i - k : Nat) : Int) := by omega
        have hPQ : (P ++ Q).length ≤ 1000000000000 := by rw [List.length_append]; omega
        obtain ⟨n, hn⟩ : ∃ n, n = L.length := ⟨_, rfl⟩
        rw [← hn] at HP I1 t0 h6 hil hkn hi ⊢
        unfold av at HR
        clear hk hn l1 l2 hrA hrB r2 hinc hd hr ht hl h1 hc h2
        go_enter Tryd.func32, Tryd.ntmps32
        go_wp2_with fail
        refine (HP.out _).mono ?_
        rintro e w2 ⟨rfl, hb2⟩
        have M2 := hM.on hb2
        have cf := M2.fn.cell (j := 0) rfl
        unfold cl2 at cf
        have hB2 : Below B0 w w2 := hb2.mono hB0
        have M2' := Lib.hid M2
        clear hb2 hM M2
        go_wp2_with fail
        refine (I1.out _ hB2 M2'.out (Nat.le_trans hB0 hB2.size) (Nat.le_trans hB hB2.size) (hgB.out _ hB2)).mono ?_
        rintro e w3 ⟨rfl, M3, hb3⟩
        have hB3 : Below B0 w w3 := hB2.trans hb3
        obtain ⟨f3, v3, c3, o3⟩ := M3
        have f3' := Lib.hid f3
        have c3' := Lib.hid c3
        have o3' := Lib.hid o3
        have cq : ∀ x : ExtOf w3.drew, x.world.cell? ⟨q, 0, none⟩ = some v3 := fun x => (c3.below (x.below (Nat.le_refl _)) c3.lt).cell rfl
        clear hb3 hB2 M2' cf f3 c3 o3 I1 HP
        go_wp2_with fail
        refine wp_region_planM [4, 5] [(true, 0), (true, 1), (false, 2), (false, 3), (false, 4), (false, 5)] (by decide) (by kernel_rfl) (by kernel_rfl) (by decide) (by intro c a d v w h; cases d <;> exact h) ?_
        change wpPlanM _ _ _ _ _ _ w3.drew
        iterate 2 (refine wpPlanM_plain rfl (fun K hK => ?_); go_simp; refine hK _ ?_; clear hK K)
        refine wpPlanM_call rfl (fun K hK => ?_)
        go_wp2_with fail
        refine (HR.out _ hB3.drew (Nat.le_trans hB0 hB3.size)).mono ?_
        rintro e w4 ⟨rfl, hb4⟩
        go_wp2_with fail
        refine planPostL_normal ⟨.inr hb4, hK _ _ ?_⟩
        clear hK K
        have hb4 := drewBelow hb4
        have hB4 : Below B0 w w4 := hB3.trans (hb4.mono (Nat.le_trans hB0 hB3.size))
        have hf4 := Lib.hid (f3'.out.below hb4 f3'.out.lt)
        have hc4 := Lib.hid (c3'.out.below hb4 c3'.out.lt)
        have ho4 := o3'.out.below hb4 (Nat.le_refl _)
        have hBw4 : B ≤ w4.heap.size := Nat.le_trans hB hB4.size
        clear hb4 hB3 f3' c3' o3' HR cq
        refine wpPlanM_call rfl (fun K hK => ?_)
        refine step_build_dg rfl _ rfl R r1 rfl ?_
        have hx5 : Ext w4 (w4.alloc (.cells (R.map bv).toArray 31)) := (Below.refl _ _).alloc (Nat.le_refl _) _
        refine wpList_end (planPostL_normal ⟨.inr hx5, hK _ _ ?_⟩)
        clear hK K hx5
        refine wpPlanM_call rfl (fun K hK => ?_)
        refine push_dg rfl _ _ rfl B v3 (P ++ Q) R r1 rfl _ rfl rfl ho4 hPQ hBw4 ?_
        intro v5 w5 ho5 hb5
        refine wpList_end (planPostL_normal ⟨.inl (by decide), hK _ _ ?_⟩)
        clear hK K
        have hf5 := hf4.out.below hb5 hpB
        have hc5 := Lib.hid (hc4.out.below hb5 hqB)
        have hB5 : Below B0 w w5 := hB4.trans (hb5.mono (Nat.le_of_lt (Nat.lt_of_le_of_lt hp hpB)))
        obtain ⟨A5, c5, rfl, _, _, _, _⟩ := ho5.form
        have hso := slice_one A5 (P ++ Q ++ [R]).length c5
        rw [List.append_assoc] at ho5 hso ⊢
        generalize (P ++ (Q ++ [R])).length = m5 at ho5 hso ⊢
        clear hb5 hf4 hc4 ho4
        refine wpPlanM_call rfl (fun K hK => ?_)
        refine wpList_blk_store rfl 22 _ _ rfl 0 (.slice A5 m5 c5) rfl rfl hc5.out size_slice (Nat.le_of_eq rfl) hso ?_
        intro w6 hc6 ho6
        refine wpList_end (planPostL_normal ⟨.inl (by decide), hK _ _ ?_⟩)
        clear hK K
        refine wpPlanM_nil ?_
        go_wp2_with fail
        exact bodyPost_end (results_none rfl _ _ _) rfl ⟨rfl, ⟨hf5.only ho6 hpq'.out, ⟨_, hc6.out, ho5.only ho6 hqB⟩⟩, hB5.trans (ho6.below hq)⟩
    · have hn : (L.length : Int) = 1 := by omega
      have hnl : Hid (inc L i = []) := by show _ = _; unfold inc; exact Mk.incl_one nd emp (by omega) i
      rw [hnl.out, List.append_nil]
      go_enter Tryd.func32, Tryd.ntmps32
      go_wp2_with fail
      exact bodyPost_ret (results_none rfl _ _ _) rfl ⟨rfl, hM, Below.refl _ _⟩
end Go.Proofs.YtlgokfgiemaklaaDoor

namespace Go.Proofs.YtlgokfgiemaklaaDoor
set_option linter.unusedVariables false
set_option linter.unusedSimpArgs false
open Go.RowKit

/-- What a proof is returned as. -/
def PfEnd (P : List (List UInt8)) (w : World) (e : Ending) (w' : World) : Prop := ∃ v, (e = .returned (.tuple #[v, .int .i64 0]) ∧ OwnD w' w.heap.size v P) ∧ Below w.heap.size w w'

set_option maxRecDepth 100000 in
set_option maxHeartbeats 2000000 in
theorem inclusion_ok (L : List (List UInt8)) (A : Option Addr) (c i : Nat) (w : World) (hd : D16 L) (hc : L.length ≤ c) (h6 : L.length ≤ 1000000) (hi : i < L.length) (hA : Dg w A L) (ht : Tab 2 w) :
    Calls Tryd.prog 10 #[.slice A L.length c, .int .i64 i] w (PfEnd (inc L i) w) := by
  obtain ⟨ad, rfl, hab, _⟩ := hA.look (k := 0) (u := bv ((flat L).getD 0 0)) (by
    have := flat_len L hd
    rw [List.getElem?_map, List.getElem?_eq_getElem (by omega), List.getD_eq_getElem?_getD, List.getElem?_eq_getElem (by omega)]
    rfl)
  have HC : Hid (∀ W, Mkg W (w.heap.size + 2) (w.heap.size + 1) w.heap.size (cl2 32 (w.heap.size + 1) w.heap.size) 64 [] → Below w.heap.size w W → w.heap.size + 2 ≤ W.heap.size →
      Calls Tryd.prog 32 #[.slice (some ad) L.length c, .int .i64 i, .pointer (some ⟨w.heap.size + 1, 0, none⟩), .pointer (some ⟨w.heap.size, 0, none⟩)] W fun e w' => e = .returned (.tuple #[]) ∧ Mkg w' (w.heap.size + 2) (w.heap.size + 1) w.heap.size (cl2 32 (w.heap.size + 1) w.heap.size) 64 (inc L i) ∧ Below w.heap.size W w') := fun W hM hB hs => by
    have h := incl_up w.heap.size (w.heap.size + 2) (w.heap.size + 1) w.heap.size (by omega) (Nat.le_refl _) (by omega) (by omega) (by omega) ht.1 L.length L ad c i [] W (Nat.le_refl _) (by omega) hd hc h6 hi (by simp) (Rds.below hA hB) hM (by omega) (by omega) (ht.on hB)
    rw [List.nil_append] at h
    exact h
  have hmf : ∀ (fn : Fn) (first cap : Array Value) (w : World), (Instr.makeFunc fn first cap).run Tryd.prog w = .ok (.func fn first cap) w := fun _ _ _ _ => rfl
  have hN : Hid (Blk ((w.alloc (.cells #[.slice none 0 0] 22)).alloc (.cells #[.nilFunc] 64)) (w.heap.size + 1) [.nilFunc] 64) := (Blk.new _ [_] _).at (by simp)
  have hB2 : Hid (Below w.heap.size w ((w.alloc (.cells #[.slice none 0 0] 22)).alloc (.cells #[.nilFunc] 64))) := ((Below.refl _ _).alloc (Nat.le_refl _) _).alloc (by simp) _
  have hQ2 : Hid (Blk ((w.alloc (.cells #[.slice none 0 0] 22)).alloc (.cells #[.nilFunc] 64)) w.heap.size [.slice none 0 0] 22) := (Blk.new _ [_] _).alloc _
  have hs2 : Hid (((w.alloc (.cells #[.slice none 0 0] 22)).alloc (.cells #[.nilFunc] 64)).heap.size = w.heap.size + 2) := by show _ = _; simp
  have hsf : (Tryd.prog.info? 64).map (·.size) = some 1 := by kernel_rfl
  have hone : ∀ u ∈ (cl2 32 (w.heap.size + 1) w.heap.size).cells.toList, u.oneCell' = true := by
    intro u hu
    have hu' : u ∈ [cl2 32 (w.heap.size + 1) w.heap.size] := hu
    simp only [List.mem_singleton] at hu'
    subst hu'
    rfl
  obtain ⟨n, hn⟩ : ∃ n, n = L.length := ⟨_, rfl⟩
  rw [← hn] at HC hi ⊢
  have t0 : ¬ (i : Int) < 0 := by omega
  have t1 : ¬ (n : Int) ≤ (i : Int) := by omega
  clear hn hA hab ht hc h6 hd
  unfold cl2 at *
  go_enter Tryd.func10, Tryd.ntmps10
  go_wp2_with (refine wpList_blk_store rfl 64 _ _ rfl 0 _ rfl rfl hN.out hsf (Nat.le_of_eq rfl) hone ?_; intro W3 hf3 ho3; have cf := Blk.cell (j := 0) hf3.out rfl)
  have hB3 : Below w.heap.size w W3 := hB2.out.trans (ho3.below (by omega))
  have hq3 := hQ2.out.only ho3 (by omega)
  have hs3 : w.heap.size + 2 ≤ W3.heap.size := by rw [ho3.size, hs2.out]; exact Nat.le_refl _
  refine (HC.out _ ⟨hf3.out, _, hq3, ownD_nil _ _⟩ hB3 hs3).mono ?_
  rintro e w4 ⟨rfl, M4, hb4⟩
  obtain ⟨f4, v4, c4, o4⟩ := M4
  have cq := c4.cell (j := 0) rfl
  clear cf hq3 hs3
  go_wp2_with fail
  go_ret2
  refine ⟨v4, ⟨rfl, ?_⟩, hB3.trans hb4⟩
  exact ⟨o4.1, o4.2.imp id fun ⟨g, cap, cur, h1, h2, h3⟩ => ⟨g, cap, cur, h1, by omega, h3⟩⟩

set_option maxRecDepth 100000 in
set_option maxHeartbeats 1000000 in
theorem inclusion_no (n : Nat) (A : Option Addr) (c : Nat) (i : Int) (w : World) (hi : i < 0 ∨ (n : Int) ≤ i) :
    Calls Tryd.prog 10 #[.slice A n c, .int .i64 i] w fun e w' => e = .returned (.tuple #[.slice none 0 0, .int .i64 1]) ∧ w' = w := by
  by_cases t0 : i < 0
  · clear hi
    go_enter Tryd.func10, Tryd.ntmps10
    go_wp2_with fail
    go_ret2
    exact ⟨rfl, rfl⟩
  · have t1 : (n : Int) ≤ i := by omega
    clear hi
    go_enter Tryd.func10, Tryd.ntmps10
    go_wp2_with fail
    go_ret2
    exact ⟨rfl, rfl⟩
end Go.Proofs.YtlgokfgiemaklaaDoor

namespace Go.Proofs.YtlgokfgiemaklaaDoor
set_option linter.unusedVariables false
set_option linter.unusedSimpArgs false
open Go.RowKit

def cs (L : List (List UInt8)) (m : Nat) (mark : Bool) : List (List UInt8) := Mk.cons nd emp L m mark
theorem cs_len (N : Nat) : ∀ (L : List (List UInt8)) (m : Nat) (mark : Bool), L.length ≤ N → (cs L m mark).length ≤ N + 1 := by
  induction N with
  | zero =>
    intro L m mark h
    unfold cs
    rw [Mk.cons]
    split
    · split <;> simp
    · rw [dif_pos (by omega)]; simp
  | succ N ih =>
    intro L m mark h
    by_cases hm : m = L.length
    · unfold cs; rw [Mk.cons_all nd emp hm]; split <;> simp
    · by_cases h2 : 2 ≤ L.length
      · have a := Mk.ksz_lt h2
        have b := Mk.ksz_pos L.length
        by_cases hi : m ≤ Mk.ksz L.length
        · have := ih (L.take (Mk.ksz L.length)) m mark (by rw [List.length_take]; omega)
          unfold cs at this ⊢
          rw [Mk.cons_left nd emp h2 hm hi, List.length_append]
          simp
          omega
        · have := ih (L.drop (Mk.ksz L.length)) (m - Mk.ksz L.length) false (by rw [List.length_drop]; omega)
          unfold cs at this ⊢
          rw [Mk.cons_right nd emp h2 hm hi, List.length_append]
          simp
          omega
      · unfold cs; rw [Mk.cons, if_neg hm, dif_pos (by omega)]; simp

set_option maxRecDepth 100000 in
set_option maxHeartbeats 4000000 in
theorem cons_up (B0 B p q : Nat) (hp : B0 ≤ p) (hq : B0 ≤ q) (hpB : p < B) (hqB : q < B) (hpq : p ≠ q) (hg : 2 < B0) (N : Nat) : ∀ (L : List (List UInt8)) (ad : Addr) (c m : Nat) (mark : Bool) (P : List (List UInt8)) (w : World), L.length ≤ N → 1 ≤ L.length → D16 L → L.length ≤ c → L.length ≤ 1000000 → 1 ≤ m → m ≤ L.length → P.length ≤ 1000000 → Rds w B0 (some ad) ((flat L).map bv) → Mkg w B p q (cl2 34 q p) 67 P → B0 ≤ w.heap.size → B ≤ w.heap.size → Tab 2 w →
    Calls Tryd.prog 34 #[.slice (some ad) L.length c, .int .i64 m, .bool mark, .pointer (some ⟨q, 0, none⟩), .pointer (some ⟨p, 0, none⟩)] w fun e w' => e = .returned (.tuple #[]) ∧ Mkg w' B p q (cl2 34 q p) 67 (P ++ cs L m mark) ∧ Below B0 w w' := by
  induction N with
  | zero => intro L ad c m mark P w hl h1; omega
  | succ N ih =>
    intro L ad c m mark P w hl h1 hd hc h6 hm1 hm hP hr hM hB0 hB ht
    have hpq' := Lib.hid hpq
    have hr' := Lib.hid hr
    have hgB : Hid (∀ W, Below B0 w W → Tab 2 W) := fun W hb => ht.below hb hg
    by_cases hall : m = L.length
    · have t0 : ((m : Int) == (L.length : Int)) = true := by simp; omega
      cases mark with
      | true =>
        have hnl : Hid (cs L m true = []) := by show _ = _; unfold cs; rw [Mk.cons_all nd emp hall]; rfl
        rw [hnl.out, List.append_nil]
        go_enter Tryd.func34, Tryd.ntmps34
        go_wp2_with fail
        exact bodyPost_ret (results_none rfl _ _ _) rfl ⟨rfl, hM, Below.refl _ _⟩
      | false =>
        have hnl : Hid (cs L m false = [rt L]) := by show _ = _; unfold cs rt; rw [Mk.cons_all nd emp hall]; rfl
        rw [hnl.out]
        have r2 := rt_len hd
        have HR := Lib.hid (fun W (h : Below B0 w W) hB0 => root_any L (some ad) c W hd hc (by omega) ((Rds.below hr h).more hB0) (hgB.out W h))
        generalize rt L = R at HR r2 ⊢
        have hPQ : P.length ≤ 1000000000000 := by omega
        obtain ⟨f3, v3, c3, o3⟩ := hM
        have f3' := Lib.hid f3
        have c3' := Lib.hid c3
        have o3' := Lib.hid o3
        have cq : ∀ x : ExtOf w.drew, x.world.cell? ⟨q, 0, none⟩ = some v3 := fun x => (c3.below (x.below (Nat.le_refl _)) c3.lt).cell rfl
        obtain ⟨n, hn⟩ : ∃ n, n = L.length := ⟨_, rfl⟩
        rw [← hn] at HR t0 ⊢
        unfold av at HR
        clear hn f3 c3 o3 hd hr ht hl h1 hc h6 hm hall ih
        go_enter Tryd.func34, Tryd.ntmps34
        go_wp2_with fail
        refine wp_region_planM [4, 5] [(true, 0), (true, 1), (false, 2), (false, 3), (false, 4), (false, 5)] (by decide) (by kernel_rfl) (by kernel_rfl) (by decide) (by intro c a d v w h; cases d <;> exact h) ?_
        change wpPlanM _ _ _ _ _ _ w.drew
        iterate 2 (refine wpPlanM_plain rfl (fun K hK => ?_); go_simp; refine hK _ ?_; clear hK K)
        refine wpPlanM_call rfl (fun K hK => ?_)
        go_wp2_with fail
        refine (HR.out _ ((Below.refl _ _).drew) hB0).mono ?_
        rintro e w4 ⟨rfl, hb4⟩
        go_wp2_with fail
        refine planPostL_normal ⟨.inr hb4, hK _ _ ?_⟩
        clear hK K
        have hb4 := drewBelow hb4
        have hB4 : Below B0 w w4 := hb4.mono hB0
        have hf4 := Lib.hid (f3'.out.below hb4 f3'.out.lt)
        have hc4 := Lib.hid (c3'.out.below hb4 c3'.out.lt)
        have ho4 := o3'.out.below hb4 (Nat.le_refl _)
        have hBw4 : B ≤ w4.heap.size := Nat.le_trans hB hB4.size
        clear hb4 f3' c3' o3' HR cq
        refine wpPlanM_call rfl (fun K hK => ?_)
        refine step_build_dg rfl _ rfl R r2 rfl ?_
        have hx5 : Ext w4 (w4.alloc (.cells (R.map bv).toArray 31)) := (Below.refl _ _).alloc (Nat.le_refl _) _
        refine wpList_end (planPostL_normal ⟨.inr hx5, hK _ _ ?_⟩)
        clear hK K hx5
        refine wpPlanM_call rfl (fun K hK => ?_)
        refine push_dg rfl _ _ rfl B v3 P R r2 rfl _ rfl rfl ho4 hPQ hBw4 ?_
        intro v5 w5 ho5 hb5
        refine wpList_end (planPostL_normal ⟨.inl (by decide), hK _ _ ?_⟩)
        clear hK K
        have hf5 := hf4.out.below hb5 hpB
        have hc5 := Lib.hid (hc4.out.below hb5 hqB)
        have hB5 : Below B0 w w5 := hB4.trans (hb5.mono (Nat.le_of_lt (Nat.lt_of_le_of_lt hp hpB)))
        obtain ⟨A5, c5, rfl, _, _, _, _⟩ := ho5.form
        have hso := slice_one A5 (P ++ [R]).length c5
        generalize (P ++ [R]).length = m5 at ho5 hso ⊢
        clear hb5 hf4 hc4 ho4
        refine wpPlanM_call rfl (fun K hK => ?_)
        refine wpList_blk_store rfl 22 _ _ rfl 0 (.slice A5 m5 c5) rfl rfl hc5.out size_slice (Nat.le_of_eq rfl) hso ?_
        intro w6 hc6 ho6
        refine wpList_end (planPostL_normal ⟨.inl (by decide), hK _ _ ?_⟩)
        clear hK K
        refine wpPlanM_nil ?_
        go_wp2_with fail
        exact bodyPost_ret (results_none rfl _ _ _) rfl ⟨rfl, ⟨hf5.only ho6 hpq'.out, ⟨_, hc6.out, ho5.only ho6 hqB⟩⟩, hB5.trans (ho6.below hq)⟩
    · have h2 : 2 ≤ L.length := by omega
      obtain ⟨k, hk⟩ : ∃ k, k = Mk.ksz L.length := ⟨_, rfl⟩
      have hkn : k < L.length := by rw [hk]; exact Mk.ksz_lt h2
      have hkp : 0 < k := by rw [hk]; exact Mk.ksz_pos _
      have HP := Lib.hid (fun W => parts_any L.length k c ad W hk h2 (by omega) hc)
      have l1 : (L.take k).length = k := by rw [List.length_take]; omega
      have l2 : (L.drop k).length = L.length - k := List.length_drop ..
      have r1 := rt_len (hd.take k)
      have r2 := rt_len (hd.drop k)
      have t0 : ((m : Int) == (L.length : Int)) = false := by simp; omega
      have hrA : Hid (∀ W, Below B0 w W → Rds W B0 (some ad) ((flat (L.take k)).map bv)) := fun W hb => rds_take (hr.below hb) hd k
      have hrB : Hid (∀ W, Below B0 w W → Rds W B0 (some (ad.add (16 * k))) ((flat (L.drop k)).map bv)) := fun W hb => rds_drop (hr.below hb) hd k
      by_cases hik : m ≤ k
      · have hinc : Hid (cs L m mark = cs (L.take k) m mark ++ [rt (L.drop k)]) := by show _ = _; unfold cs rt; rw [hk] at hik ⊢; exact Mk.cons_left nd emp h2 hall hik mark
        rw [hinc.out]
        have hil := cs_len L.length (L.take k) m mark (by rw [l1]; omega)
        have I1 := Lib.hid (fun W h => ih (L.take k) ad k m mark P W (by omega) (by omega) (hd.take k) (by omega) (by omega) hm1 (by omega) hP (hrA.out W h))
        have HR := Lib.hid (fun W (h : Below B0 w W) hB0 => root_any (L.drop k) (some (ad.add (16 * k))) (L.length - k) W (hd.drop k) (by omega) (by omega) ((hrB.out W h).more hB0) (hgB.out W h))
        rw [l1] at I1
        rw [l2] at HR
        generalize rt (L.drop k) = R at HR r2 ⊢
        generalize cs (L.take k) m mark = Q at I1 hil ⊢
        have t2 : (m : Int) ≤ (k : Int) := by omega
        have hPQ : (P ++ Q).length ≤ 1000000000000 := by rw [List.length_append]; omega
        obtain ⟨n, hn⟩ : ∃ n, n = L.length := ⟨_, rfl⟩
        rw [← hn] at HP HR t0 h6 hil hkn hm ⊢
        unfold av at HR
        clear hk hn l1 l2 hrA hrB r1 hinc hd hr ht hl h1 hc h2 hall
        go_enter Tryd.func34, Tryd.ntmps34
        go_wp2_with fail
        refine (HP.out _).mono ?_
        rintro e w2 ⟨rfl, hb2⟩
        have M2 := hM.on hb2
        have cf := M2.fn.cell (j := 0) rfl
        unfold cl2 at cf
        have hB2 : Below B0 w w2 := hb2.mono hB0
        have M2' := Lib.hid M2
        clear hb2 hM M2
        go_wp2_with fail
        refine (I1.out _ hB2 M2'.out (Nat.le_trans hB0 hB2.size) (Nat.le_trans hB hB2.size) (hgB.out _ hB2)).mono ?_
        rintro e w3 ⟨rfl, M3, hb3⟩
        have hB3 : Below B0 w w3 := hB2.trans hb3
        obtain ⟨f3, v3, c3, o3⟩ := M3
        have f3' := Lib.hid f3
        have c3' := Lib.hid c3
        have o3' := Lib.hid o3
        have cq : ∀ x : ExtOf w3.drew, x.world.cell? ⟨q, 0, none⟩ = some v3 := fun x => (c3.below (x.below (Nat.le_refl _)) c3.lt).cell rfl
        clear hb3 hB2 M2' cf f3 c3 o3 I1 HP
        go_wp2_with fail
        refine wp_region_planM [4, 5] [(true, 0), (true, 1), (false, 2), (false, 3), (false, 4), (false, 5)] (by decide) (by kernel_rfl) (by kernel_rfl) (by decide) (by intro c a d v w h; cases d <;> exact h) ?_
        change wpPlanM _ _ _ _ _ _ w3.drew
        iterate 2 (refine wpPlanM_plain rfl (fun K hK => ?_); go_simp; refine hK _ ?_; clear hK K)
        refine wpPlanM_call rfl (fun K hK => ?_)
        go_wp2_with fail
        refine (HR.out _ hB3.drew (Nat.le_trans hB0 hB3.size)).mono ?_
        rintro e w4 ⟨rfl, hb4⟩
        go_wp2_with fail
        refine planPostL_normal ⟨.inr hb4, hK _ _ ?_⟩
        clear hK K
        have hb4 := drewBelow hb4
        have hB4 : Below B0 w w4 := hB3.trans (hb4.mono (Nat.le_trans hB0 hB3.size))
        have hf4 := Lib.hid (f3'.out.below hb4 f3'.out.lt)
        have hc4 := Lib.hid (c3'.out.below hb4 c3'.out.lt)
        have ho4 := o3'.out.below hb4 (Nat.le_refl _)
        have hBw4 : B ≤ w4.heap.size := Nat.le_trans hB hB4.size
        clear hb4 hB3 f3' c3' o3' HR cq
        refine wpPlanM_call rfl (fun K hK => ?_)
        refine step_build_dg rfl _ rfl R r2 rfl ?_
        have hx5 : Ext w4 (w4.alloc (.cells (R.map bv).toArray 31)) := (Below.refl _ _).alloc (Nat.le_refl _) _
        refine wpList_end (planPostL_normal ⟨.inr hx5, hK _ _ ?_⟩)
        clear hK K hx5
        refine wpPlanM_call rfl (fun K hK => ?_)
        refine push_dg rfl _ _ rfl B v3 (P ++ Q) R r2 rfl _ rfl rfl ho4 hPQ hBw4 ?_
        intro v5 w5 ho5 hb5
        refine wpList_end (planPostL_normal ⟨.inl (by decide), hK _ _ ?_⟩)
        clear hK K
        have hf5 := hf4.out.below hb5 hpB
        have hc5 := Lib.hid (hc4.out.below hb5 hqB)
        have hB5 : Below B0 w w5 := hB4.trans (hb5.mono (Nat.le_of_lt (Nat.lt_of_le_of_lt hp hpB)))
        obtain ⟨A5, c5, rfl, _, _, _, _⟩ := ho5.form
        have hso := slice_one A5 (P ++ Q ++ [R]).length c5
        rw [List.append_assoc] at ho5 hso ⊢
        generalize (P ++ (Q ++ [R])).length = m5 at ho5 hso ⊢
        clear hb5 hf4 hc4 ho4
        refine wpPlanM_call rfl (fun K hK => ?_)
        refine wpList_blk_store rfl 22 _ _ rfl 0 (.slice A5 m5 c5) rfl rfl hc5.out size_slice (Nat.le_of_eq rfl) hso ?_
        intro w6 hc6 ho6
        refine wpList_end (planPostL_normal ⟨.inl (by decide), hK _ _ ?_⟩)
        clear hK K
        refine wpPlanM_nil ?_
        go_wp2_with fail
        exact bodyPost_end (results_none rfl _ _ _) rfl ⟨rfl, ⟨hf5.only ho6 hpq'.out, ⟨_, hc6.out, ho5.only ho6 hqB⟩⟩, hB5.trans (ho6.below hq)⟩
      · have hinc : Hid (cs L m mark = cs (L.drop k) (m - k) false ++ [rt (L.take k)]) := by show _ = _; unfold cs rt; rw [hk] at hik ⊢; exact Mk.cons_right nd emp h2 hall hik mark
        rw [hinc.out]
        have hil := cs_len L.length (L.drop k) (m - k) false (by rw [l2]; omega)
        have I1 := Lib.hid (fun W h => ih (L.drop k) (ad.add (16 * k)) (L.length - k) (m - k) false P W (by omega) (by omega) (hd.drop k) (by omega) (by omega) (by omega) (by omega) hP (hrB.out W h))
        have HR := Lib.hid (fun W (h : Below B0 w W) hB0 => root_any (L.take k) (some ad) k W (hd.take k) (by omega) (by omega) ((hrA.out W h).more hB0) (hgB.out W h))
        rw [l2] at I1
        rw [l1] at HR
        generalize rt (L.take k) = R at HR r1 ⊢
        generalize cs (L.drop k) (m - k) false = Q at I1 hil ⊢
        have t2 : ¬ (m : Int) ≤ (k : Int) := by omega
        have e2 : (m : Int) - (k : Int) = ((m - k : Nat) : Int) := by omega
        have hPQ : (P ++ Q).length ≤ 1000000000000 := by rw [List.length_append]; omega
        obtain ⟨n, hn⟩ : ∃ n, n = L.length := ⟨_, rfl⟩
        rw [← hn] at HP I1 t0 h6 hil hkn hm ⊢
        unfold av at HR
        clear hk hn l1 l2 hrA hrB r2 hinc hd hr ht hl h1 hc h2 hall
        go_enter Tryd.func34, Tryd.ntmps34
        go_wp2_with fail
        refine (HP.out _).mono ?_
        rintro e w2 ⟨rfl, hb2⟩
        have M2 := hM.on hb2
        have cf := M2.fn.cell (j := 0) rfl
        unfold cl2 at cf
        have hB2 : Below B0 w w2 := hb2.mono hB0
        have M2' := Lib.hid M2
        clear hb2 hM M2
        go_wp2_with fail
        refine (I1.out _ hB2 M2'.out (Nat.le_trans hB0 hB2.size) (Nat.le_trans hB hB2.size) (hgB.out _ hB2)).mono ?_
        rintro e w3 ⟨rfl, M3, hb3⟩
        have hB3 : Below B0 w w3 := hB2.trans hb3
        obtain ⟨f3, v3, c3, o3⟩ := M3
        have f3' := Lib.hid f3
        have c3' := Lib.hid c3
        have o3' := Lib.hid o3
        have cq : ∀ x : ExtOf w3.drew, x.world.cell? ⟨q, 0, none⟩ = some v3 := fun x => (c3.below (x.below (Nat.le_refl _)) c3.lt).cell rfl
        clear hb3 hB2 M2' cf f3 c3 o3 I1 HP
        go_wp2_with fail
        refine wp_region_planM [4, 5] [(true, 0), (true, 1), (false, 2), (false, 3), (false, 4), (false, 5)] (by decide) (by kernel_rfl) (by kernel_rfl) (by decide) (by intro c a d v w h; cases d <;> exact h) ?_
        change wpPlanM _ _ _ _ _ _ w3.drew
        iterate 2 (refine wpPlanM_plain rfl (fun K hK => ?_); go_simp; refine hK _ ?_; clear hK K)
        refine wpPlanM_call rfl (fun K hK => ?_)
        go_wp2_with fail
        refine (HR.out _ hB3.drew (Nat.le_trans hB0 hB3.size)).mono ?_
        rintro e w4 ⟨rfl, hb4⟩
        go_wp2_with fail
        refine planPostL_normal ⟨.inr hb4, hK _ _ ?_⟩
        clear hK K
        have hb4 := drewBelow hb4
        have hB4 : Below B0 w w4 := hB3.trans (hb4.mono (Nat.le_trans hB0 hB3.size))
        have hf4 := Lib.hid (f3'.out.below hb4 f3'.out.lt)
        have hc4 := Lib.hid (c3'.out.below hb4 c3'.out.lt)
        have ho4 := o3'.out.below hb4 (Nat.le_refl _)
        have hBw4 : B ≤ w4.heap.size := Nat.le_trans hB hB4.size
        clear hb4 hB3 f3' c3' o3' HR cq
        refine wpPlanM_call rfl (fun K hK => ?_)
        refine step_build_dg rfl _ rfl R r1 rfl ?_
        have hx5 : Ext w4 (w4.alloc (.cells (R.map bv).toArray 31)) := (Below.refl _ _).alloc (Nat.le_refl _) _
        refine wpList_end (planPostL_normal ⟨.inr hx5, hK _ _ ?_⟩)
        clear hK K hx5
        refine wpPlanM_call rfl (fun K hK => ?_)
        refine push_dg rfl _ _ rfl B v3 (P ++ Q) R r1 rfl _ rfl rfl ho4 hPQ hBw4 ?_
        intro v5 w5 ho5 hb5
        refine wpList_end (planPostL_normal ⟨.inl (by decide), hK _ _ ?_⟩)
        clear hK K
        have hf5 := hf4.out.below hb5 hpB
        have hc5 := Lib.hid (hc4.out.below hb5 hqB)
        have hB5 : Below B0 w w5 := hB4.trans (hb5.mono (Nat.le_of_lt (Nat.lt_of_le_of_lt hp hpB)))
        obtain ⟨A5, c5, rfl, _, _, _, _⟩ := ho5.form
        have hso := slice_one A5 (P ++ Q ++ [R]).length c5
        rw [List.append_assoc] at ho5 hso ⊢
        generalize (P ++ (Q ++ [R])).length = m5 at ho5 hso ⊢
        clear hb5 hf4 hc4 ho4
        refine wpPlanM_call rfl (fun K hK => ?_)
        refine wpList_blk_store rfl 22 _ _ rfl 0 (.slice A5 m5 c5) rfl rfl hc5.out size_slice (Nat.le_of_eq rfl) hso ?_
        intro w6 hc6 ho6
        refine wpList_end (planPostL_normal ⟨.inl (by decide), hK _ _ ?_⟩)
        clear hK K
        refine wpPlanM_nil ?_
        go_wp2_with fail
        exact bodyPost_end (results_none rfl _ _ _) rfl ⟨rfl, ⟨hf5.only ho6 hpq'.out, ⟨_, hc6.out, ho5.only ho6 hqB⟩⟩, hB5.trans (ho6.below hq)⟩
end Go.Proofs.YtlgokfgiemaklaaDoor

namespace Go.Proofs.YtlgokfgiemaklaaDoor
set_option linter.unusedVariables false
set_option linter.unusedSimpArgs false
open Go.RowKit

set_option maxRecDepth 100000 in
set_option maxHeartbeats 2000000 in
theorem consistency_pos (L : List (List UInt8)) (A : Option Addr) (c m : Nat) (w : World) (hd : D16 L) (hc : L.length ≤ c) (h6 : L.length ≤ 1000000) (hm1 : 1 ≤ m) (hm : m ≤ L.length) (hA : Dg w A L) (ht : Tab 2 w) :
    Calls Tryd.prog 11 #[.slice A L.length c, .int .i64 m] w (PfEnd (cs L m true) w) := by
  obtain ⟨ad, rfl, hab, _⟩ := hA.look (k := 0) (u := bv ((flat L).getD 0 0)) (by
    have := flat_len L hd
    rw [List.getElem?_map, List.getElem?_eq_getElem (by omega), List.getD_eq_getElem?_getD, List.getElem?_eq_getElem (by omega)]
    rfl)
  have HC : Hid (∀ W, Mkg W (w.heap.size + 2) (w.heap.size + 1) w.heap.size (cl2 34 w.heap.size (w.heap.size + 1)) 67 [] → Below w.heap.size w W → w.heap.size + 2 ≤ W.heap.size →
      Calls Tryd.prog 34 #[.slice (some ad) L.length c, .int .i64 m, .bool true, .pointer (some ⟨w.heap.size, 0, none⟩), .pointer (some ⟨w.heap.size + 1, 0, none⟩)] W fun e w' => e = .returned (.tuple #[]) ∧ Mkg w' (w.heap.size + 2) (w.heap.size + 1) w.heap.size (cl2 34 w.heap.size (w.heap.size + 1)) 67 (cs L m true) ∧ Below w.heap.size W w') := fun W hM hB hs => by
    have h := cons_up w.heap.size (w.heap.size + 2) (w.heap.size + 1) w.heap.size (by omega) (Nat.le_refl _) (by omega) (by omega) (by omega) ht.1 L.length L ad c m true [] W (Nat.le_refl _) (by omega) hd hc h6 hm1 hm (by simp) (Rds.below hA hB) hM (by omega) (by omega) (ht.on hB)
    rw [List.nil_append] at h
    exact h
  have hmf : ∀ (fn : Fn) (first cap : Array Value) (w : World), (Instr.makeFunc fn first cap).run Tryd.prog w = .ok (.func fn first cap) w := fun _ _ _ _ => rfl
  have hN : Hid (Blk ((w.alloc (.cells #[.slice none 0 0] 22)).alloc (.cells #[.nilFunc] 67)) (w.heap.size + 1) [.nilFunc] 67) := (Blk.new _ [_] _).at (by simp)
  have hB2 : Hid (Below w.heap.size w ((w.alloc (.cells #[.slice none 0 0] 22)).alloc (.cells #[.nilFunc] 67))) := ((Below.refl _ _).alloc (Nat.le_refl _) _).alloc (by simp) _
  have hQ2 : Hid (Blk ((w.alloc (.cells #[.slice none 0 0] 22)).alloc (.cells #[.nilFunc] 67)) w.heap.size [.slice none 0 0] 22) := (Blk.new _ [_] _).alloc _
  have hs2 : Hid (((w.alloc (.cells #[.slice none 0 0] 22)).alloc (.cells #[.nilFunc] 67)).heap.size = w.heap.size + 2) := by show _ = _; simp
  have hsf : (Tryd.prog.info? 67).map (·.size) = some 1 := by kernel_rfl
  have hone : ∀ u ∈ (cl2 34 w.heap.size (w.heap.size + 1)).cells.toList, u.oneCell' = true := by
    intro u hu
    have hu' : u ∈ [cl2 34 w.heap.size (w.heap.size + 1)] := hu
    simp only [List.mem_singleton] at hu'
    subst hu'
    rfl
  obtain ⟨n, hn⟩ : ∃ n, n = L.length := ⟨_, rfl⟩
  rw [← hn] at HC hm ⊢
  have t0 : ¬ (m : Int) < 0 := by omega
  have t1 : ¬ (n : Int) < (m : Int) := by omega
  have t2 : ((m : Int) == 0) = false := by simp; omega
  clear hn hA hab ht hc h6 hd
  unfold cl2 at *
  go_enter Tryd.func11, Tryd.ntmps11
  go_wp2_with (refine wpList_blk_store rfl 67 _ _ rfl 0 _ rfl rfl hN.out hsf (Nat.le_of_eq rfl) hone ?_; intro W3 hf3 ho3; have cf := Blk.cell (j := 0) hf3.out rfl)
  have hB3 : Below w.heap.size w W3 := hB2.out.trans (ho3.below (by omega))
  have hq3 := hQ2.out.only ho3 (by omega)
  have hs3 : w.heap.size + 2 ≤ W3.heap.size := by rw [ho3.size, hs2.out]; exact Nat.le_refl _
  refine (HC.out _ ⟨hf3.out, _, hq3, ownD_nil _ _⟩ hB3 hs3).mono ?_
  rintro e w4 ⟨rfl, M4, hb4⟩
  obtain ⟨f4, v4, c4, o4⟩ := M4
  have cq := c4.cell (j := 0) rfl
  clear cf hq3 hs3
  go_wp2_with fail
  go_ret2
  refine ⟨v4, ⟨rfl, ?_⟩, hB3.trans hb4⟩
  exact ⟨o4.1, o4.2.imp id fun ⟨g, cap, cur, h1, h2, h3⟩ => ⟨g, cap, cur, h1, by omega, h3⟩⟩

set_option maxRecDepth 100000 in
set_option maxHeartbeats 1000000 in
theorem consistency_zero (n : Nat) (A : Option Addr) (c : Nat) (w : World) :
    Calls Tryd.prog 11 #[.slice A n c, .int .i64 0] w fun e w' => e = .returned (.tuple #[.slice none 0 0, .int .i64 0]) ∧ w' = w := by
  have t1 : ¬ (n : Int) < 0 := by omega
  go_enter Tryd.func11, Tryd.ntmps11
  go_wp2_with fail
  go_ret2
  exact ⟨rfl, rfl⟩
set_option maxRecDepth 100000 in
set_option maxHeartbeats 1000000 in
theorem consistency_no (n : Nat) (A : Option Addr) (c : Nat) (m : Int) (w : World) (hm : m < 0 ∨ (n : Int) < m) :
    Calls Tryd.prog 11 #[.slice A n c, .int .i64 m] w fun e w' => e = .returned (.tuple #[.slice none 0 0, .int .i64 1]) ∧ w' = w := by
  by_cases t0 : m < 0
  · clear hm
    go_enter Tryd.func11, Tryd.ntmps11
    go_wp2_with fail
    go_ret2
    exact ⟨rfl, rfl⟩
  · have t1 : (n : Int) < m := by omega
    clear hm
    go_enter Tryd.func11, Tryd.ntmps11
    go_wp2_with fail
    go_ret2
    exact ⟨rfl, rfl⟩
end Go.Proofs.YtlgokfgiemaklaaDoor
