/-
  Contracts: decoding lists of digests; the exported functions that decode lists.
-/
import Derived.Test.YthnbiegpfjnadaaDec
import Derived.Laws.Cover3
namespace Go.Proofs.Ythnbiegpfjnadaa
open Go.RowKit

/-- What getDigest returns. -/
def GdEnd (d : List UInt8) (w : World) (e : Ending) (w' : World) : Prop :=
  e = .returned (.tuple #[dv d, .int .i64 16, .int .i64 0]) ∧ Below w.heap.size w w'

theorem bytes_one (d : List UInt8) : (d.map bv).toArray.all (·.oneCell') = true := by
  rw [List.all_toArray, List.all_eq_true]
  intro x hx
  obtain ⟨b, _, rfl⟩ := List.mem_map.1 hx
  rfl
theorem new_cells (w : World) (d : List UInt8) (t : TypeId) : ∀ j v, (d.map bv)[j]? = some v → (w.alloc (.cells (d.map bv).toArray t)).cell? ((⟨w.heap.size, 0, none⟩ : Addr).add j) = some v := by
  intro j v hv
  obtain ⟨ad', he, _, hc⟩ := (Rds.new w (d.map bv) t).look hv
  injection he with he
  subst he
  exact hc

theorem results_arr2 {P : Program} {fn : Func} {p t u : Tmp} {ty : TypeId} (h : fn.results = #[.cell p ty, .tmp t, .tmp u]) (tmps : Array Value) (w : World) (ad : Addr) (v : Value)
    (hp : tmps.getD p undef = .pointer (some ad)) (hv : (loadVar ty ad).run P w = .ok v w) :
    (results fn tmps).run P w = .ok (.tuple #[v, tmps.getD t undef, tmps.getD u undef]) w := by
  have hp' : tmps[p]?.getD undef = .pointer (some ad) := by simpa using hp
  simp [results, h, hp', asAddr, hv]

set_option maxRecDepth 100000 in
set_option maxHeartbeats 400000 in
theorem getDigest_any (l : List UInt8) (A : Option Addr) (n c : Nat) (w : World) (hn : n = l.length) (hr : Rds w w.heap.size A (l.map bv)) (h16 : 16 ≤ n) (hc : n ≤ c) :
    Calls Try.prog 51 #[.slice A n c] w (GdEnd (l.take 16) w) := by
  subst hn
  have hd : (l.take 16).length = 16 := by rw [List.length_take]; omega
  have hrd := hr.take 16
  rw [← List.map_take] at hrd
  obtain ⟨ad, rfl, hab, hcell0⟩ := hrd (by intro h; have := congrArg List.length h; rw [List.length_map, hd] at this; cases this)
  have hcell : Hid (∀ (o : Obj) (j : Nat) (v : Value), ((l.take 16).map bv)[j]? = some v → (w.alloc o).cell? (ad.add j) = some v) := fun o j v hv =>
    (World.cell?_alloc_lt w o _ (by rw [add_block]; exact hab)).trans (hcell0 j v hv)
  generalize l.take 16 = d at hd hcell ⊢
  have hsd : Hid ((Try.prog.info? 57).map (·.size) = some (d.map bv).length) := by show _ = _; rw [List.length_map, hd]; exact sizeDig
  have hsa : Hid ((Try.prog.info? 57).map (·.size) = some (d.map bv).toArray.size) := by show _ = _; rw [List.size_toArray]; exact hsd.out
  have hs16 : Hid (16 = (d.map bv).toArray.size) := by show _ = _; rw [List.size_toArray, List.length_map, hd]
  clear hd hrd hcell0
  have hat := fun W => run_arrayAt (P := Try.prog) W 57 5 16 (some ad) 16 c arrDig (Nat.le_refl _)
  go_enter Try.func51, Try.ntmps51
  go_wp2_with (first | (refine wpList_load_arr rfl 57 _ rfl ad rfl (d.map bv) 16 5 (hcell.out _) arrDig hsd.out ?_) | (refine wpList_store_new rfl 57 _ _ rfl rfl _ _ rfl hsa.out hs16.out (bytes_one d) ?_))
  exact bodyPost_ret (results_arr2 rfl _ _ ⟨w.heap.size, 0, none⟩ _ rfl (run_loadVar_new w 57 (d.map bv).toArray 16 5 arrDig hsa.out)) rfl ⟨rfl, (Below.refl _ _).alloc (Nat.le_refl _) _⟩
def GxEnd (r : List (List UInt8) × Nat × Int) (w : World) : Ending → World → Prop := GlEnd 57 16 r.1.length ((r.1.flatMap id).map bv) r.2.1 r.2.2 w

theorem infoDig : (Try.prog.info? 57).map (fun i => (i.zero, i.size, i.bytes)) = some (some (.agg #[.int .u8 0, .int .u8 0, .int .u8 0, .int .u8 0, .int .u8 0, .int .u8 0, .int .u8 0, .int .u8 0, .int .u8 0, .int .u8 0, .int .u8 0, .int .u8 0, .int .u8 0, .int .u8 0, .int .u8 0, .int .u8 0]), 16, 16) := by kernel_rfl

theorem buildDig (d : List UInt8) (hd : d.length = 16) : ∀ W, (Instr.buildSlice 24 1 #[(0, .agg (d.map bv).toArray)]).run Try.prog W = .ok (.slice (some ⟨W.heap.size, 0, none⟩) 1 1) (W.alloc (.cells (d.map bv).toArray 57)) := fun W => by
  obtain ⟨i0, hi, hz0, hz1, hz2⟩ := info_parts infoDig
  have hs : (d.map bv).toArray.size = 16 := by rw [List.size_toArray, List.length_map, hd]
  exact run_buildSlice_arr W 24 57 i0 _ Try.underlying24 hi hz0 _ (by rw [hz1, hs]) (by omega) (by omega)
theorem step_buildDig {w : World} {ops : Array Oper} {rest : List Oper} {o : Oper} {a : Act} {Q : Exit → Act → World → Prop} (hgd : o.guard = none) (x : Operand) (ho : o.op = .buildSlice 24 1 #[(0, x)])
    (d : List UInt8) (hd : d.length = 16) (hx : a.eval x = .agg (d.map bv).toArray)
    (h : wpList Try.prog ops Q rest (a.put o.dst (.slice (some ⟨w.heap.size, 0, none⟩) 1 1)) (w.alloc (.cells (d.map bv).toArray 57))) : wpList Try.prog ops Q (o :: rest) a w :=
  wpList_buildSlice_one hgd 24 x ho _ _ hx (buildDig d hd w) h
/-- A row of the call's own is one still behind a call that leaves all that was there. -/
theorem own_below {w w' : World} {base : Nat} {e : TypeId} {size n : Nat} {v : Value} {xs : List Value} (h : w.ownsRow base e size v n xs) (hb : Below w.heap.size w w') : w'.ownsRow base e size v n xs := by
  refine ⟨h.1, ?_⟩
  rcases h.2 with hn | ⟨g, cap, cur, rfl, hg, hh, rest⟩
  · exact .inl hn
  · refine .inr ⟨g, cap, cur, rfl, hg, ?_, rest⟩
    rw [hb.block g (Array.getElem?_eq_some_iff.1 hh).1]
    exact hh
/-- 'l = append(l, d)', d a digest: the walk's step. -/
theorem push_dig {w0 : World} {ops : Array Oper} {rest : List Oper} {o : Oper} {a : Act} {Q : Exit → Act → World → Prop} (hgd : o.guard = none) (s x : Operand)
    (ho : o.op = .call { callee := .builtin .append, args := #[s, x], argTypes := #[24, 24] })
    (base : Nat) (v : Value) (n : Nat) (l : List (List UInt8)) (d : List UInt8) (hd : d.length = 16) (hs : a.eval s = v) (m : Nat) (hx : a.eval x = .slice (some ⟨m, 0, none⟩) 1 1) (hm : m = w0.heap.size)
    (hown : w0.ownsRow base 57 16 v n ((l.flatMap id).map bv)) (hlen : n ≤ 1000000000000) (hbase : base ≤ w0.heap.size)
    (h : ∀ v' w', w'.ownsRow base 57 16 v' (n + 1) (((l ++ [d]).flatMap id).map bv) → Below base w0 w' → wpList Try.prog ops Q rest (a.put o.dst v') w') :
    wpList Try.prog ops Q (o :: rest) a (w0.alloc (.cells (d.map bv).toArray 57)) := by
  subst hm
  obtain ⟨i0, hi, hz0, hz1, hz2⟩ := info_parts infoDig
  refine wpList_append_own_at _ hgd s x 24 ho base 57 i0 _ 16 16 Try.underlying24 hi hz0 hz1 hz2 rfl (by decide) v n _ hs (World.ownsRow.alloc hown _) ⟨w0.heap.size, 0, none⟩ 1 1 (d.map bv) hx (by rw [List.length_map, hd]) (new_cells w0 d _)
    (by intro u hu; obtain ⟨b, _, rfl⟩ := List.mem_map.1 hu; rfl) (by unfold maxLen; omega) (by omega) (by simp; omega) ?_
  intro v' w' h2 h3 _ _
  refine h v' w' ?_ (((Below.refl _ _).alloc hbase _).grown h3 (by simp; omega) fun _ hk => (hown.lt _ hk).1)
  rw [List.flatMap_append, List.map_append, List.flatMap_cons, List.flatMap_nil, List.append_nil]
  exact h2

set_option maxRecDepth 100000 in
set_option maxHeartbeats 1000000 in
theorem getList_dig (l : List UInt8) (A : Option Addr) (c : Nat) (w : World) (hr : Rds w w.heap.size A (l.map bv)) (hl : l.length ≤ 1000000000000) (hc : l.length ≤ c) :
    Calls Try.prog 50 #[.slice A l.length c, .int .i64 16, .func (.func 51) #[] #[]] w (GxEnd (Wm.getList Wm.getDigest 16 l) w) := by
  have H := Lib.hid (length_any l 16 (by omega) (by omega) A c w hr (by unfold maxLen; omega))
  rcases hg : Wm.getLen l 16 with ⟨n, u, x⟩
  have D := Lib.hid hg
  have R : Hid (Wm.getList Wm.getDigest 16 l = if x ≠ 0 then ([], 0, x) else Wm.getSome Wm.getDigest l n.toNat u []) := by
    show _ = _
    unfold Wm.getList; rw [hg]
  by_cases hx : x = 0
  · subst hx
    obtain ⟨hgi, hn0, hn1, hu⟩ := Wm.getLen_ok hg
    clear hgi
    have R' := Lib.hid (R.out.trans (if_neg (by simp)))
    obtain ⟨N, rfl⟩ := Int.eq_ofNat_of_zero_le hn0
    have hN : u + 16 * N ≤ l.length := by omega
    clear hn1
    obtain ⟨i0, hi, hz0, hz1, hz2⟩ := info_parts infoDig
    obtain ⟨wm, hmk0, hom, hgm⟩ := run_make_own (P := Try.prog) w w.heap.size 24 57 i0 _ 16 Try.underlying24 hi hz0 hz1 .i64 .i64 N (by rw [hz2]; omega) (by unfold maxLen; omega) (Nat.le_refl _)
    have hmk := hmk0
    have hbm : Below w.heap.size w wm := (Below.refl _ _).grown hgm (Nat.le_refl _) (by simp)
    clear hg R hmk0 hi hz0 hz1 hz2 hgm
    go_enter Try.func50, Try.ntmps50
    go_wp2_with fail
    refine H.out.mono ?_
    rintro e w' ⟨rfl, rfl⟩
    rw [D.out]
    go_wp2
    go_loopw [10, 12, 29] (fun at_ v i wr => ∃ (k : Nat) (acc : List (List UInt8)), k ≤ N ∧ i = .int .i64 k ∧ at_ = .int .i64 ((u + 16 * k : Nat) : Int) ∧ Wm.getSome Wm.getDigest l (N - k) (u + 16 * k) acc = Wm.getList Wm.getDigest 16 l ∧ wr.ownsRow w.heap.size 57 16 v k ((acc.flatMap id).map bv) ∧ acc.length = k ∧ Below w.heap.size w wr) (fun _ _ i _ => N - (intOf i).toNat)
    case atStart => exact ⟨0, [], by omega, rfl, rfl, R'.out.symm, hom, rfl, hbm⟩
    case round =>
      obtain ⟨k, acc, hk, rfl, rfl, hinv0, ho, hacc0, hbw⟩ := hrel
      have hinv := Lib.hid hinv0
      have hacc := Lib.hid hacc0
      clear hinv0 hacc0
      have hsz := hbw.size
      by_cases hlt : k < N
      · have hab : u + 16 * k + 16 ≤ l.length := by omega
        have hsum : Hid (((u + 16 * k : Nat) : Int) + 16 = ((u + 16 * (k + 1) : Nat) : Int)) := by show _ = _; omega
        generalize hA : u + 16 * k = a at hinv hab hsum
        have HA := Lib.hid hA
        clear hA
        have hra := ((hr.below hbw).more hsz).drop a
        rw [← List.map_drop] at hra
        have HC := Lib.hid (fun n' c' hn hc => getDigest_any (l.drop a) _ n' c' wr hn hra (by rw [hn, List.length_drop]; omega) hc)
        have S' : Hid (Wm.getSome Wm.getDigest l (N - (k + 1)) (u + 16 * (k + 1)) (acc ++ [(l.drop a).take 16]) = Wm.getList Wm.getDigest 16 l) := by
          show _ = _
          rw [← hinv.out, show N - k = (N - (k + 1)) + 1 from by omega, Wm.getSome]
          simp only [Wm.getDigest, ne_eq, not_true_eq_false, if_false]
          rw [show a + 16 = u + 16 * (k + 1) from by have := HA.out; omega]
        have hd : Hid (((l.drop a).take 16).length = 16) := by show _ = _; rw [List.length_take, List.length_drop]; omega
        have hne : ¬ c = a := by omega
        have hdl : Hid (l.length - a = (l.drop a).length) := by show _ = _; rw [List.length_drop]
        clear hinv
        generalize (l.drop a).take 16 = d at HC S' hd
        go_wp2_with fail
        refine (HC.out _ _ hdl.out (by omega)).mono ?_
        rintro e w2 ⟨rfl, hb2⟩
        unfold dv
        have hsd : Hid ((Try.prog.info? 57).map (·.size) = some (d.map bv).length) := by show _ = _; rw [List.length_map, hd.out]; exact sizeDig
        have hsa : Hid ((Try.prog.info? 57).map (·.size) = some (d.map bv).toArray.size) := by show _ = _; rw [List.size_toArray]; exact hsd.out
        have hs16 : Hid (16 = (d.map bv).toArray.size) := by show _ = _; rw [List.size_toArray, List.length_map, hd.out]
        have hsz2 := hb2.size
        have ho2 : w2.ownsRow w.heap.size 57 16 u12 k ((acc.flatMap id).map bv) := own_below ho hb2
        go_wp2_with (first | (refine wpList_store_new rfl 57 _ _ rfl rfl _ _ rfl hsa.out hs16.out (bytes_one d) ?_) | (refine wpList_load_arr rfl 57 _ rfl ⟨w2.heap.size, 0, none⟩ rfl (d.map bv) 16 5 (new_cells w2 d _) arrDig hsd.out ?_) | (refine step_buildDig rfl _ rfl d hd.out rfl ?_) | (at_builtin; go_must (refine push_dig rfl _ _ rfl w.heap.size u12 k acc d hd.out rfl _ rfl (by simp) (World.ownsRow.alloc ho2 _) (by omega) (by simp; omega) ?_); intro v3 w3 ho3 hb3))
        go_roundw
        case rel => exact ⟨k + 1, acc ++ [d], by omega, by go_num, by rw [← hsum.out], S'.out, ho3, by simp [hacc.out], hbw.trans ((hb2.mono hsz).trans (((Below.refl _ _).alloc (by omega) _).trans hb3))⟩
        case measure => simp [intOf]; omega
      · have E : Hid (Wm.getList Wm.getDigest 16 l = (acc, u + 16 * k, 0)) := by
          show _ = _
          rw [← hinv.out, show N - k = 0 from by omega]; rfl
        clear hinv
        go_wp2
        go_ret3
        unfold GxEnd
        rw [E.out]
        exact glEnd rfl rfl hacc.out.symm rfl rfl rfl ho hbw
  · have t : (x != 0) = true := by simp; omega
    have R' := Lib.hid (R.out.trans (if_pos hx))
    clear R hx hg
    go_enter Try.func50, Try.ntmps50
    go_wp2_with fail
    refine H.out.mono ?_
    rintro e w' ⟨rfl, rfl⟩
    rw [D.out]
    go_wp2
    go_ret3
    unfold GxEnd
    rw [R'.out]
    exact glEnd rfl rfl rfl rfl rfl rfl (World.ownsRow_nil _ _ _ _) (Below.refl _ _)

theorem getInts_any (l : List UInt8) (A : Option Addr) (c : Nat) (w : World) (hr : Rds w w.heap.size A (l.map bv)) (hl : l.length ≤ 1000000000000) (hc : l.length ≤ c) :
    Calls Try.prog 28 #[.slice A l.length c] w (GiEnd (Wm.getList Wm.getInt 1 l) w) := by
  have H := Lib.hid (getList_int l A c w hr hl hc)
  go_enter Try.func28, Try.ntmps28
  go_wp2_with fail
  refine H.out.mono ?_
  rintro e w' ⟨v', rfl, h2, h3⟩
  go_wp2
  go_ret3
  exact ⟨_, rfl, h2, h3⟩
theorem getStrings_any (l : List UInt8) (A : Option Addr) (c : Nat) (w : World) (hr : Rds w w.heap.size A (l.map bv)) (hl : l.length ≤ 1000000000000) (hc : l.length ≤ c) :
    Calls Try.prog 31 #[.slice A l.length c] w (GsEnd (Wm.getList Wm.getBytes 1 l) w) := by
  have H := Lib.hid (getList_str l A c w hr hl hc)
  go_enter Try.func31, Try.ntmps31
  go_wp2_with fail
  refine H.out.mono ?_
  rintro e w' ⟨v', rfl, h2, h3⟩
  go_wp2
  go_ret3
  exact ⟨_, rfl, h2, h3⟩
theorem getDigests_any (l : List UInt8) (A : Option Addr) (c : Nat) (w : World) (hr : Rds w w.heap.size A (l.map bv)) (hl : l.length ≤ 1000000000000) (hc : l.length ≤ c) :
    Calls Try.prog 34 #[.slice A l.length c] w (GxEnd (Wm.getList Wm.getDigest 16 l) w) := by
  have H := Lib.hid (getList_dig l A c w hr hl hc)
  go_enter Try.func34, Try.ntmps34
  go_wp2_with fail
  refine H.out.mono ?_
  rintro e w' ⟨v', rfl, h2, h3⟩
  go_wp2
  go_ret3
  exact ⟨_, rfl, h2, h3⟩
end Go.Proofs.Ythnbiegpfjnadaa
