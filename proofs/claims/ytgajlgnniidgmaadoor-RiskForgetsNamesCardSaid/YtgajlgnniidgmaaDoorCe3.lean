/-
  Contracts of stage 7: equations, suffices. Contracts of stage 7: Recoverable. (Written by tools/gencef.py.).
-/
import Derived.Test.YtgajlgnniidgmaaDoorCe1
import Derived.Test.YtgajlgnniidgmaaDoorCd1
import Derived.Test.YtgajlgnniidgmaaDoorCd2
import Derived.Test.YtgajlgnniidgmaaDoorCe2
namespace Go.Proofs.YtgajlgnniidgmaaDoor
set_option linter.unusedVariables false
set_option linter.unusedSimpArgs false
open Go.RowKit

def eqW (w : World) (a b c d : Value) : World := (((w.alloc (.cells #[a] 84)).alloc (.cells #[b] 3)).alloc (.cells #[c] 25)).alloc (.cells #[d] 104)
set_option maxRecDepth 100000 in
set_option maxHeartbeats 1000000 in
theorem equations_any (MA LA : Option Addr) (N nc l lc : Nat) (s : Int) (f : Fn) (cap : Array Value) (w : World) :
    Calls Tryd.prog 80 #[.slice MA N nc, .int .i64 s, .slice LA l lc, .func f #[] cap] w fun e w' =>
      e = .returned (.func (.func 88) #[] #[.pointer (some ⟨w.heap.size, 0, none⟩), .pointer (some ⟨w.heap.size + 1, 0, none⟩), .pointer (some ⟨w.heap.size + 1 + 1, 0, none⟩), .pointer (some ⟨w.heap.size + 1 + 1 + 1, 0, none⟩)]) ∧ w' = eqW w (.slice MA N nc) (.int .i64 s) (.slice LA l lc) (.func f #[] cap) := by
  have hmf : ∀ (fn : Fn) (first cap : Array Value) (w : World), (Instr.makeFunc fn first cap).run Tryd.prog w = .ok (.func fn first cap) w := fun _ _ _ _ => rfl
  unfold eqW
  go_enter Tryd.func80, Tryd.ntmps80
  go_wp2_with fail
  go_ret
  exact ⟨rfl, rfl⟩
set_option maxRecDepth 100000 in
theorem hcf_eqs (args : Array Value) (W : World) : (callFunc 88 args).run Tryd.prog W = .ok (.enter 88 args) W := by
  first
    | rfl
    | (with_unfolding_all rfl)
    | kernel_rfl
set_option maxRecDepth 100000 in
theorem hcf_suf1 (args : Array Value) (W : World) : (callFunc 81 args).run Tryd.prog W = .ok (.enter 81 args) W := by
  first
    | rfl
    | (with_unfolding_all rfl)
    | kernel_rfl
set_option maxRecDepth 100000 in
theorem suf1_any (k : Int) (w : World) : Calls Tryd.prog 81 #[.int .i64 k] w fun e w' => e = .returned (sv []) ∧ Below w.heap.size w w' := by
  go_enter Tryd.func81, Tryd.ntmps81
  go_wp2_with fail
  go_ret
  exact ⟨rfl, Below.refl _ _⟩
theorem eqW_below (w : World) (a b c d : Value) : Below w.heap.size w (eqW w a b c d) :=
  ((((Below.refl _ _).alloc (Nat.le_refl _) _).alloc (by simp) _).alloc (by simp; omega) _).alloc (by simp; omega) _
theorem eqW_1 (w : World) (a b c d : Value) : Blk (eqW w a b c d) w.heap.size [a] 84 := (((Blk.new w [a] _).alloc _).alloc _).alloc _
theorem eqW_2 (w : World) (a b c d : Value) : Blk (eqW w a b c d) (w.heap.size + 1) [b] 3 := (((Blk.new (w.alloc (.cells #[a] 84)) [b] _).at (by simp)).alloc _).alloc _
theorem eqW_3 (w : World) (a b c d : Value) : Blk (eqW w a b c d) (w.heap.size + 1 + 1) [c] 25 := ((Blk.new ((w.alloc (.cells #[a] 84)).alloc (.cells #[b] 3)) [c] _).at (by simp)).alloc _
theorem eqW_4 (w : World) (a b c d : Value) : Blk (eqW w a b c d) (w.heap.size + 1 + 1 + 1) [d] 104 := (Blk.new (((w.alloc (.cells #[a] 84)).alloc (.cells #[b] 3)).alloc (.cells #[c] 25)) [d] _).at (by simp)
theorem shr_int (s D : Nat) : (s : Int) / 2 ^ D = ((s / 2 ^ D : Nat) : Int) := by
  rw [Int.natCast_ediv, Int.natCast_pow]; rfl
theorem noS_cells (wd : Nat) : stL wd noS (fun _ => 0) (fun _ => 0) = .int .i64 wd :: .int .i64 0 :: List.replicate 16 (.slice none 0 0) := rfl
theorem noS_mem {w : World} {gs wd : Nat} (h : Blk w gs (.int .i64 wd :: .int .i64 0 :: List.replicate 16 (.slice none 0 0)) 100) : StM w gs wd noS (fun _ => 0) (fun _ => 0) (fun _ => []) :=
  ⟨h, fun k _ e => absurd rfl e, fun j k _ _ e => absurd rfl e, fun k _ => Nat.zero_le _⟩
set_option maxRecDepth 100000 in
set_option maxHeartbeats 8000000 in
theorem suffices_any {B D n c N nc s : Nat} {G : Int} {A MA : Option Addr} {M : List (List UInt8)} (w : World) (hM : Mat w B MA M) (hB : B ≤ w.heap.size) (hMN : M.length = N) (hMD : ∀ m ∈ M, m.length = D) (hN : N ≤ 28) (hnc : N = nc) (hD : D ≤ 16) (hs : s ≤ 1073741824) (ht : PTab 2 w) :
    Calls Tryd.prog 69 #[cdv D A n c G, .slice MA N nc, .int .i64 s] w (SayEnd w (Full7 (eqL M (misL s D) (fun _ => []) (s / 2 ^ D) N 0) (misL s D).length)) := by
  subst hnc
  obtain ⟨W1, hW1⟩ : ∃ W1, W1 = w.alloc (.cells #[.int .i64 D, .slice A n c, .int .i64 G] 24) := ⟨_, rfl⟩
  have hB1 : Hid (Below w.heap.size w W1) := by show Below _ _ _; rw [hW1]; exact (Below.refl _ _).alloc (Nat.le_refl _) _
  have hR1 : Hid (Blk W1 w.heap.size [.int .i64 D, .slice A n c, .int .i64 G] 24) := by show Blk _ _ _ _; rw [hW1]; exact Blk.new _ [_, _, _] _
  have CM := Lib.hid (missing_any D n c s G A W1 hD)
  have hmf : ∀ (fn : Fn) (first cap : Array Value) (w : World), (Instr.makeFunc fn first cap).run Tryd.prog w = .ok (.func fn first cap) w := fun _ _ _ _ => rfl
  have hcfE := hcf_eqs
  have p0 := hR1.out.cell (j := 0) rfl
  have p1 := hR1.out.cell (j := 1) rfl
  have p2 := hR1.out.cell (j := 2) rfl
  subst hW1
  unfold cdv at CM ⊢
  have hMH := Lib.hid hM
  have hBH := Lib.hid hB
  have hMNH := Lib.hid hMN
  have hMDH := Lib.hid hMD
  have htH := Lib.hid ht
  have hll := misL_len s D
  obtain ⟨l, hl⟩ : ∃ l, l = misL s D := ⟨_, rfl⟩
  rw [← hl] at CM hll ⊢
  have hlD : Hid (∀ i ∈ l, i < D) := fun i hi => by
    rw [hl] at hi
    unfold misL at hi
    exact List.mem_range.1 (List.mem_filter.1 hi).1
  obtain ⟨wd, hwd⟩ : ∃ wd, wd = l.length := ⟨_, rfl⟩
  rw [← hwd] at hll ⊢
  have hwdH := Lib.hid hwd
  have e2 := shr_int s D
  obtain ⟨s2, hs2⟩ : ∃ s2, s2 = s / 2 ^ D := ⟨_, rfl⟩
  rw [← hs2] at e2 ⊢
  have tD0 : ¬ (D : Int) < 0 := by omega
  have tD64 : min D 64 = D := by omega
  clear hM hB hMN hMD ht hl hwd hs2
  go_enter Tryd.func69, Tryd.ntmps69
  go_wp2_with fail
  refine CM.out.mono ?_
  rintro e w2 ⟨v, rfl, hO, hb2⟩
  obtain ⟨LA, lc, rfl, hlc, _, _, hLr⟩ := own_form hO
  rw [← hwdH.out]
  have hLrH := Lib.hid hLr
  have hB2 : Hid (Below w.heap.size w w2) := hB1.out.trans (hb2.mono hB1.out.size)
  have hk2 := hR1.out.below hb2 hR1.out.lt
  replace p0 := hk2.cell (j := 0) rfl
  replace p1 := hk2.cell (j := 1) rfl
  replace p2 := hk2.cell (j := 2) rfl
  clear hk2 hb2 hO hlc hLr
  obtain ⟨W3, hW3⟩ : ∃ W3, W3 = w2.alloc (.cells #[Value.int .i64 wd, .int .i64 0, .slice none 0 0, .slice none 0 0, .slice none 0 0, .slice none 0 0, .slice none 0 0, .slice none 0 0, .slice none 0 0, .slice none 0 0, .slice none 0 0, .slice none 0 0, .slice none 0 0, .slice none 0 0, .slice none 0 0, .slice none 0 0, .slice none 0 0, .slice none 0 0] 100) := ⟨_, rfl⟩
  have hb3 : Hid (Below w2.heap.size w2 W3) := by show Below _ _ _; rw [hW3]; exact (Below.refl _ _).alloc (Nat.le_refl _) _
  have hB3 : Hid (Below w.heap.size w W3) := hB2.out.trans (hb3.out.mono hB2.out.size)
  have hS3 : Hid (StM W3 w2.heap.size wd noS (fun _ => 0) (fun _ => 0) (fun _ => [])) := noS_mem (by rw [hW3]; exact Blk.new _ (_ :: _) _)
  have q0 : W3.cell? ⟨w.heap.size, 0, none⟩ = some (.int .i64 D) := (hb3.out.cell (p := ⟨w.heap.size, 0, none⟩) (World.block_lt_of_cell? w2 _ p0)).trans p0
  rw [hW3] at q0
  have hW3H := Lib.hid hW3
  have hLr3 : Hid (Rds W3 w2.heap.size LA (l.map pv)) := hLrH.out.below hb3.out
  have hM3 : Hid (Mat W3 B MA M) := hMH.out.below (hB3.out.mono hBH.out)
  have CE := Lib.hid (equations_any MA LA N N wd lc s2 (.func 81) #[] W3)
  have hs3 : Hid (w2.heap.size < W3.heap.size) := hS3.out.out.lt
  have CF : Hid (∀ W, Below W3.heap.size W3 W → Blk W W3.heap.size [.slice MA N N] 84 → Blk W (W3.heap.size + 1) [.int .i64 s2] 3 → Blk W (W3.heap.size + 1 + 1) [.slice LA wd lc] 25 → Blk W (W3.heap.size + 1 + 1 + 1) [.func (.func 81) #[] #[]] 104 →
      Calls Tryd.prog 88 #[.func (.func 82) #[.pointer (some ⟨w2.heap.size, 0, none⟩)] #[], .pointer (some ⟨W3.heap.size, 0, none⟩), .pointer (some ⟨W3.heap.size + 1, 0, none⟩), .pointer (some ⟨W3.heap.size + 1 + 1, 0, none⟩), .pointer (some ⟨W3.heap.size + 1 + 1 + 1, 0, none⟩)] W
        (EqsEnd W w2.heap.size wd (runS wd noS (eqL M l (fun _ => []) s2 N 0)))) := fun W hW h1 h2 h3 h4 =>
    eqs_any (B := w2.heap.size) (D := D) (ex := 0) (cap := []) (fun _ => []) W ((hM3.out.more (Nat.le_trans hBH.out hB2.out.size)).below (hW.mono (Nat.le_of_lt hs3.out))) hMNH.out hMDH.out (hLr3.out.below (hW.mono (Nat.le_of_lt hs3.out))) hwdH.out.symm hlD.out (Nat.le_refl _) (hS3.out.keep hW) h1 h2 h3 h4
      (by have := hs3.out; omega) hcf_suf1 (fun k _ _ W _ => suf1_any k W) (fun _ _ _ => rfl) hN hD (by omega) (by omega) ((htH.out.on hB3.out).on hW) (Nat.lt_of_lt_of_le htH.out.1 hB2.out.size)
  rw [hW3] at CE
  clear p0 p1 p2 hW3
  go_wp2_with fail
  refine CE.out.mono ?_
  rintro e w4 ⟨rfl, rfl⟩
  rw [← hW3H.out]
  go_wp2_with fail
  refine (CF.out _ (eqW_below _ _ _ _ _) (eqW_1 _ _ _ _ _) (eqW_2 _ _ _ _ _) (eqW_3 _ _ _ _ _) (eqW_4 _ _ _ _ _)).mono ?_
  rintro e w5 ⟨rfl, ⟨sb, sc, sr, hS5⟩, hC5⟩
  have hB5 : Hid (Below w.heap.size w w5) := hB3.out.trans (((eqW_below _ _ _ _ _).mono hB3.out.size).trans (hC5.below (fun x hx => by have := hB2.out.size; simp at hx; omega) (Nat.le_trans hB3.out.size (eqW_below _ _ _ _ _).size)))
  have q0 : w5.cell? ⟨w2.heap.size, 0, none⟩ = some (.int .i64 wd) := hS5.out.cell (j := 0) rfl
  have q1 : w5.cell? ⟨w2.heap.size, 1, none⟩ = some (.int .i64 ((runS wd noS (eqL M l (fun _ => []) s2 N 0)).ht : Int)) := hS5.out.cell (j := 1) rfl
  have CU := Lib.hid (full_any w2.heap.size wd _ w5 q0 q1)
  have hfull : Hid ((((runS wd noS (eqL M l (fun _ => []) s2 N 0)).ht : Int) == (wd : Int)) = true ↔ Full7 (eqL M l (fun _ => []) s2 N 0) wd) := by
    show _ ↔ _
    rw [← (run_full (wd := wd) (len := wd) (Nat.le_refl _) fun r hr => by
      obtain ⟨t, _, _, _, rfl⟩ := eqL_mem.1 hr
      show List.length (_ ++ []) = _
      rw [List.append_nil, List.length_map, hwdH.out]).2.2.1, beq_iff_eq]
    omega
  generalize ((runS wd noS (eqL M l (fun _ => []) s2 N 0)).ht : Int) = H at CU hfull
  clear q0 q1 hS5 hC5
  go_wp2_with fail
  refine CU.out.mono ?_
  rintro e w6 ⟨rfl, hb6⟩
  have hb6H := Lib.hid hb6
  clear hb6
  go_wp2_with fail
  go_ret
  exact ⟨⟨_, rfl, hfull.out⟩, hB5.out.trans (hb6H.out.mono hB5.out.size)⟩
end Go.Proofs.YtgajlgnniidgmaaDoor

namespace Go.Proofs.YtgajlgnniidgmaaDoor
set_option linter.unusedVariables false
set_option linter.unusedSimpArgs false
open Go.RowKit

theorem par_rows {D N : Nat} {Gs : List (List Int)} : ∀ m ∈ PM (par D Gs) N, m.length = D := fun m hm => by
  obtain ⟨t, _, rfl⟩ := List.mem_map.1 hm
  rw [par_cr, crow_len]
theorem isSet_of {s : Int} {k : Nat} : (s / 2 ^ k == 0) = true ↔ 0 ≤ s ∧ s < 2 ^ k := by
  have hp : (0 : Int) < 2 ^ k := Int.pow_pos (by omega)
  rw [beq_iff_eq]
  constructor
  · intro h
    have h1 := Int.emod_nonneg s (show (2 : Int) ^ k ≠ 0 by omega)
    have h2 := Int.emod_lt_of_pos s hp
    have h3 := Int.mul_ediv_add_emod s (2 ^ k)
    rw [h] at h3
    omega
  · rintro ⟨h1, h2⟩
    exact Int.ediv_eq_zero_of_lt h1 h2
theorem two24 {k : Nat} (h : k ≤ 24) : (2 : Int) ^ k ≤ 16777216 := by
  have : (2 : Nat) ^ k ≤ 2 ^ 24 := Nat.pow_le_pow_right (by omega) h
  have e : ((2 ^ k : Nat) : Int) = (2 : Int) ^ k := by rw [Int.natCast_pow]; rfl
  omega
set_option maxRecDepth 100000 in
set_option maxHeartbeats 8000000 in
theorem recoverable_any {B : Nat} (D G s : Int) (Gs : List (List Int)) (n c : Nat) (A : Option Addr) (w : World) (hM : CodM w B D A n c G Gs) (ht : PTab 2 w) :
    Calls Tryd.prog 51 #[cdv D A n c G, .int .i64 s] w (SayEnd w (RecP D Gs G s)) := by
  have hun : Hid (Tryd.prog.underlying 24 = _) := Tryd.underlying24
  have hsz := Lib.hid size_cod
  obtain ⟨W1, hW1⟩ : ∃ W1, W1 = w.alloc (.cells #[.int .i64 D, .slice A n c, .int .i64 G] 24) := ⟨_, rfl⟩
  have E : Hid (Below w.heap.size w W1) := by show Below _ _ _; rw [hW1]; exact (Below.refl _ _).alloc (Nat.le_refl _) _
  have X : Hid (Blk W1 w.heap.size [.int .i64 D, .slice A n c, .int .i64 G] 24) := by show Blk _ _ _ _; rw [hW1]; exact Blk.new _ [_, _, _] _
  have M1 := Lib.hid (hM.keep E.out)
  have T1 := Lib.hid (ht.on E.out)
  have hW' := Lib.hid hW1
  obtain ⟨Ck, hCk⟩ : ∃ x, x = chkE D Gs G := ⟨_, rfl⟩
  have CC : Hid (∀ W, CodM W B D A n c G Gs → Calls Tryd.prog 41 #[cdv D A n c G] W fun e w' => e = .returned (.int .i64 Ck) ∧ Below W.heap.size W w') := fun W m => by rw [hCk]; exact ccheck_any D G Gs n c A W m
  have hlen : Hid (n = Gs.length) := hM.len
  have hCkH := Lib.hid hCk
  clear hM ht hW1 hCk
  unfold cdv at CC ⊢
  by_cases h0 : Ck = 0
  rotate_left
  · have t0 : (Ck == 0) = false := by simpa using h0
    have hno : Hid (false = true ↔ RecP D Gs G s) := ⟨fun h => absurd h (by decide), fun h => absurd (hCkH.out.trans h.1) h0⟩
    clear h0
    go_enter Tryd.func51, Tryd.ntmps51
    go_wp2_with fail
    generalize hg : w.alloc _ = Wg
    have hgW : W1 = Wg := by rw [← hg, hW'.out]
    clear hg hW'
    subst hgW
    refine wp_region_planM [] [(true, 0), (false, 1), (true, 2), (true, 3), (true, 4), (true, 5), (false, 6), (true, 7), (true, 8), (true, 9), (true, 10), (true, 12), (false, 11), (false, 13), (true, 14), (true, 15)] (by decide) (by kernel_rfl) (by kernel_rfl) (by decide) (by intro c a d v w h; cases d <;> exact h) ?_
    change wpPlanM _ _ _ _ _ _ W1.drew
    have hb : Below W1.heap.size W1 W1.drew := (Below.refl _ _).drew
    generalize hgd : W1.drew = w2 at hb ⊢
    replace X := Lib.hid (X.out.below hb X.out.lt)
    replace M1 := Lib.hid (M1.out.keep hb)
    replace T1 := Lib.hid (T1.out.on hb)
    replace E : Hid (Below w.heap.size w w2) := E.out.trans (hb.mono E.out.size)
    clear hb hgd
    refine wpPlanM_runW rfl (by rfl) _ (fun q => load_run 24 _ rfl w.heap.size 0 rfl [.int .i64 D, .slice A n c, .int .i64 G] _ hun.out rfl hsz.out q.world ((Blk.below X.out q.ext X.out.lt).range 0 _ (take_all0 _))) ?_
    refine wpPlanM_call rfl (fun K hK => ?_)
    go_wp2_with fail
    have C := (CC.out w2 M1.out)
    try unfold cdv at C
    refine C.mono ?_
    rintro e w3 ⟨rfl, hb⟩
    clear C
    have hbp := Lib.hid hb
    replace X := Lib.hid (X.out.below hb X.out.lt)
    replace M1 := Lib.hid (M1.out.keep hb)
    replace T1 := Lib.hid (T1.out.on hb)
    replace E : Hid (Below w.heap.size w w3) := E.out.trans (hb.mono E.out.size)
    clear hb
    go_wp2_with fail
    refine planPostL_normal ⟨.inr hbp.out, hK _ _ ?_⟩
    clear hK K hbp
    iterate 2 (refine wpPlanM_plain rfl (fun K hK => ?_); go_simp; refine hK _ ?_; clear hK K)
    iterate 2 (refine wpPlanM_plain rfl (fun K hK => ?_); go_simp; refine hK _ ?_; clear hK K)
    refine wpPlanM_call rfl (fun K hK => ?_)
    go_wp2_with fail
    refine planPostL_normal ⟨.inr (Below.refl _ _), hK _ _ ?_⟩
    clear hK K
    iterate 5 (refine wpPlanM_plain rfl (fun K hK => ?_); go_simp; refine hK _ ?_; clear hK K)
    refine wpPlanM_call rfl (fun K hK => ?_)
    go_wp2_with fail
    refine planPostL_normal ⟨.inr (Below.refl _ _), hK _ _ ?_⟩
    clear hK K
    refine wpPlanM_call rfl (fun K hK => ?_)
    go_wp2_with fail
    refine planPostL_normal ⟨.inr (Below.refl _ _), hK _ _ ?_⟩
    clear hK K
    iterate 2 (refine wpPlanM_plain rfl (fun K hK => ?_); go_simp; refine hK _ ?_; clear hK K)
    refine wpPlanM_nil ?_
    go_wp2_with fail
    go_ret
    exact ⟨⟨false, rfl, hno.out⟩, E.out⟩
  have t0 : (Ck == 0) = true := by simpa using h0
  obtain ⟨b1, b2, b3, b4, b5, b6⟩ := cchk_ok (hCkH.out.symm.trans h0)
  obtain ⟨d, rfl⟩ : ∃ d : Nat, D = d := ⟨D.toNat, by omega⟩
  obtain ⟨g, rfl⟩ : ∃ g : Nat, G = g := ⟨G.toNat, by omega⟩
  have b6H := Lib.hid b6
  have hd : d ≤ 16 := by omega
  have hg4 : g ≤ 4 := by omega
  have hn24 : d + n + g ≤ 24 := by have := hlen.out; omega
  obtain ⟨bs, hbs⟩ : ∃ b, b = (s / 2 ^ (d + n + g) == 0) := ⟨_, rfl⟩
  have CS : Hid (∀ W, Calls Tryd.prog 68 #[.agg #[.int .i64 d, .slice A n c, .int .i64 g], .int .i64 s] W fun e w' => e = .returned (.bool bs) ∧ Below W.heap.size W w') := fun W => by rw [hbs]; exact isSet_any d n g c s A W hd hg4 (by omega)
  have hbsH := Lib.hid hbs
  have h0H := Lib.hid h0
  clear hbs b1 b2 b3 b4 b5 b6 h0
  cases bs with
  | false =>
    have hno : Hid (false = true ↔ RecP (d : Int) Gs (g : Int) s) := ⟨fun h => absurd h (by decide), fun h => by
      have := isSet_of.2 ⟨h.2.1, h.2.2.1⟩
      rw [Int.toNat_natCast, Int.toNat_natCast, ← hlen.out, ← hbsH.out] at this
      cases this⟩
    go_enter Tryd.func51, Tryd.ntmps51
    go_wp2_with fail
    generalize hg : w.alloc _ = Wg
    have hgW : W1 = Wg := by rw [← hg, hW'.out]
    clear hg hW'
    subst hgW
    refine wp_region_planM [] [(true, 0), (false, 1), (true, 2), (true, 3), (true, 4), (true, 5), (false, 6), (true, 7), (true, 8), (true, 9), (true, 10), (true, 12), (false, 11), (false, 13), (true, 14), (true, 15)] (by decide) (by kernel_rfl) (by kernel_rfl) (by decide) (by intro c a d v w h; cases d <;> exact h) ?_
    change wpPlanM _ _ _ _ _ _ W1.drew
    have hb : Below W1.heap.size W1 W1.drew := (Below.refl _ _).drew
    generalize hgd : W1.drew = w2 at hb ⊢
    replace X := Lib.hid (X.out.below hb X.out.lt)
    replace M1 := Lib.hid (M1.out.keep hb)
    replace T1 := Lib.hid (T1.out.on hb)
    replace E : Hid (Below w.heap.size w w2) := E.out.trans (hb.mono E.out.size)
    clear hb hgd
    refine wpPlanM_runW rfl (by rfl) _ (fun q => load_run 24 _ rfl w.heap.size 0 rfl [.int .i64 d, .slice A n c, .int .i64 g] _ hun.out rfl hsz.out q.world ((Blk.below X.out q.ext X.out.lt).range 0 _ (take_all0 _))) ?_
    refine wpPlanM_call rfl (fun K hK => ?_)
    go_wp2_with fail
    have C := (CC.out w2 M1.out)
    try unfold cdv at C
    refine C.mono ?_
    rintro e w3 ⟨rfl, hb⟩
    clear C
    have hbp := Lib.hid hb
    replace X := Lib.hid (X.out.below hb X.out.lt)
    replace M1 := Lib.hid (M1.out.keep hb)
    replace T1 := Lib.hid (T1.out.on hb)
    replace E : Hid (Below w.heap.size w w3) := E.out.trans (hb.mono E.out.size)
    clear hb
    go_wp2_with fail
    refine planPostL_normal ⟨.inr hbp.out, hK _ _ ?_⟩
    clear hK K hbp
    iterate 2 (refine wpPlanM_plain rfl (fun K hK => ?_); go_simp; refine hK _ ?_; clear hK K)
    refine wpPlanM_runW rfl (by rfl) _ (fun q => load_run 24 _ rfl w.heap.size 0 rfl [.int .i64 d, .slice A n c, .int .i64 g] _ hun.out rfl hsz.out q.world ((Blk.below X.out q.ext X.out.lt).range 0 _ (take_all0 _))) ?_
    iterate 1 (refine wpPlanM_plain rfl (fun K hK => ?_); go_simp; refine hK _ ?_; clear hK K)
    refine wpPlanM_call rfl (fun K hK => ?_)
    go_wp2_with fail
    have C := (CS.out w3)
    try unfold cdv at C
    refine C.mono ?_
    rintro e w4 ⟨rfl, hb⟩
    clear C
    have hbp := Lib.hid hb
    replace X := Lib.hid (X.out.below hb X.out.lt)
    replace M1 := Lib.hid (M1.out.keep hb)
    replace T1 := Lib.hid (T1.out.on hb)
    replace E : Hid (Below w.heap.size w w4) := E.out.trans (hb.mono E.out.size)
    clear hb
    go_wp2_with fail
    refine planPostL_normal ⟨.inr hbp.out, hK _ _ ?_⟩
    clear hK K hbp
    iterate 5 (refine wpPlanM_plain rfl (fun K hK => ?_); go_simp; refine hK _ ?_; clear hK K)
    refine wpPlanM_call rfl (fun K hK => ?_)
    go_wp2_with fail
    refine planPostL_normal ⟨.inr (Below.refl _ _), hK _ _ ?_⟩
    clear hK K
    refine wpPlanM_call rfl (fun K hK => ?_)
    go_wp2_with fail
    refine planPostL_normal ⟨.inr (Below.refl _ _), hK _ _ ?_⟩
    clear hK K
    iterate 2 (refine wpPlanM_plain rfl (fun K hK => ?_); go_simp; refine hK _ ?_; clear hK K)
    refine wpPlanM_nil ?_
    go_wp2_with fail
    go_ret
    exact ⟨⟨false, rfl, hno.out⟩, E.out⟩
  | true =>
    obtain ⟨hs0, hs1⟩ := isSet_of.1 hbsH.out.symm
    obtain ⟨z, rfl⟩ : ∃ z : Nat, s = z := ⟨s.toNat, by omega⟩
    have hs1H := Lib.hid hs1
    have hz : z ≤ 1073741824 := by have := two24 hn24; omega
    obtain ⟨N, hN⟩ : ∃ N, N = n + g := ⟨_, rfl⟩
    have CP : Hid (∀ W, CodM W B (d : Int) A n c (g : Int) Gs → PTab 2 W → Calls Tryd.prog 70 #[.agg #[.int .i64 d, .slice A n c, .int .i64 g]] W fun e w' => (∃ x bs, e = .returned (.slice (some ⟨x, 0, none⟩) N N) ∧ Om w' W.heap.size x bs (PM (par d Gs) N) []) ∧ Below W.heap.size W w') := fun W m t => by
      rw [hN]; exact parities_any d n c g Gs A W m hd hg4 (by omega) (grpE_rng Gs 0 (by have := b6H.out; rw [Int.toNat_natCast] at this; exact this)) t
    obtain ⟨FQ, hFQ⟩ : ∃ Q, Q = RecP (d : Int) Gs (g : Int) (z : Int) := ⟨_, rfl⟩
    rw [← hFQ]
    have hyes : Hid (Full7 (eqL (PM (par d Gs) N) (misL z d) (fun _ => []) (z / 2 ^ d) N 0) (misL z d).length ↔ FQ) := by
      show _ ↔ _
      rw [hFQ, lost_full, hN]
      unfold RecP
      rw [Int.toNat_natCast, Int.toNat_natCast, Int.toNat_natCast, ← hlen.out]
      exact ⟨fun h => ⟨hCkH.out.symm.trans h0H.out, by omega, hs1, h⟩, fun h => h.2.2.2⟩
    have hN28 : N ≤ 28 := by omega
    clear hN hFQ hs0 hs1
    go_enter Tryd.func51, Tryd.ntmps51
    go_wp2_with fail
    generalize hg : w.alloc _ = Wg
    have hgW : W1 = Wg := by rw [← hg, hW'.out]
    clear hg hW'
    subst hgW
    refine wp_region_planM [] [(true, 0), (false, 1), (true, 2), (true, 3), (true, 4), (true, 5), (false, 6), (true, 7), (true, 8), (true, 9), (true, 10), (true, 12), (false, 11), (false, 13), (true, 14), (true, 15)] (by decide) (by kernel_rfl) (by kernel_rfl) (by decide) (by intro c a d v w h; cases d <;> exact h) ?_
    change wpPlanM _ _ _ _ _ _ W1.drew
    have hb : Below W1.heap.size W1 W1.drew := (Below.refl _ _).drew
    generalize hgd : W1.drew = w2 at hb ⊢
    replace X := Lib.hid (X.out.below hb X.out.lt)
    replace M1 := Lib.hid (M1.out.keep hb)
    replace T1 := Lib.hid (T1.out.on hb)
    replace E : Hid (Below w.heap.size w w2) := E.out.trans (hb.mono E.out.size)
    clear hb hgd
    refine wpPlanM_runW rfl (by rfl) _ (fun q => load_run 24 _ rfl w.heap.size 0 rfl [.int .i64 d, .slice A n c, .int .i64 g] _ hun.out rfl hsz.out q.world ((Blk.below X.out q.ext X.out.lt).range 0 _ (take_all0 _))) ?_
    refine wpPlanM_call rfl (fun K hK => ?_)
    go_wp2_with fail
    have C := (CC.out w2 M1.out)
    try unfold cdv at C
    refine C.mono ?_
    rintro e w3 ⟨rfl, hb⟩
    clear C
    have hbp := Lib.hid hb
    replace X := Lib.hid (X.out.below hb X.out.lt)
    replace M1 := Lib.hid (M1.out.keep hb)
    replace T1 := Lib.hid (T1.out.on hb)
    replace E : Hid (Below w.heap.size w w3) := E.out.trans (hb.mono E.out.size)
    clear hb
    go_wp2_with fail
    refine planPostL_normal ⟨.inr hbp.out, hK _ _ ?_⟩
    clear hK K hbp
    iterate 2 (refine wpPlanM_plain rfl (fun K hK => ?_); go_simp; refine hK _ ?_; clear hK K)
    refine wpPlanM_runW rfl (by rfl) _ (fun q => load_run 24 _ rfl w.heap.size 0 rfl [.int .i64 d, .slice A n c, .int .i64 g] _ hun.out rfl hsz.out q.world ((Blk.below X.out q.ext X.out.lt).range 0 _ (take_all0 _))) ?_
    iterate 1 (refine wpPlanM_plain rfl (fun K hK => ?_); go_simp; refine hK _ ?_; clear hK K)
    refine wpPlanM_call rfl (fun K hK => ?_)
    go_wp2_with fail
    have C := (CS.out w3)
    try unfold cdv at C
    refine C.mono ?_
    rintro e w4 ⟨rfl, hb⟩
    clear C
    have hbp := Lib.hid hb
    replace X := Lib.hid (X.out.below hb X.out.lt)
    replace M1 := Lib.hid (M1.out.keep hb)
    replace T1 := Lib.hid (T1.out.on hb)
    replace E : Hid (Below w.heap.size w w4) := E.out.trans (hb.mono E.out.size)
    clear hb
    go_wp2_with fail
    refine planPostL_normal ⟨.inr hbp.out, hK _ _ ?_⟩
    clear hK K hbp
    iterate 2 (refine wpPlanM_plain rfl (fun K hK => ?_); go_simp; refine hK _ ?_; clear hK K)
    refine wpPlanM_runW rfl (by rfl) _ (fun q => load_run 24 _ rfl w.heap.size 0 rfl [.int .i64 d, .slice A n c, .int .i64 g] _ hun.out rfl hsz.out q.world ((Blk.below X.out q.ext X.out.lt).range 0 _ (take_all0 _))) ?_
    refine wpPlanM_runW rfl (by rfl) _ (fun q => load_run 24 _ rfl w.heap.size 0 rfl [.int .i64 d, .slice A n c, .int .i64 g] _ hun.out rfl hsz.out q.world ((Blk.below X.out q.ext X.out.lt).range 0 _ (take_all0 _))) ?_
    iterate 1 (refine wpPlanM_plain rfl (fun K hK => ?_); go_simp; refine hK _ ?_; clear hK K)
    refine wpPlanM_call rfl (fun K hK => ?_)
    go_wp2_with fail
    have C := (CP.out w4 M1.out T1.out)
    try unfold cdv at C
    refine C.mono ?_
    rintro e w5 ⟨⟨x, bs, rfl, hOm⟩, hb⟩
    clear C
    have hbp := Lib.hid hb
    replace X := Lib.hid (X.out.below hb X.out.lt)
    replace M1 := Lib.hid (M1.out.keep hb)
    replace T1 := Lib.hid (T1.out.on hb)
    replace E : Hid (Below w.heap.size w w5) := E.out.trans (hb.mono E.out.size)
    clear hb
    go_wp2_with fail
    refine planPostL_normal ⟨.inr hbp.out, hK _ _ ?_⟩
    clear hK K hbp
    have hOmH := Lib.hid hOm
    clear hOm
    refine wpPlanM_call rfl (fun K hK => ?_)
    go_wp2_with fail
    have C := (suffices_any (n := n) (c := c) (G := (g : Int)) (A := A) w5 hOmH.out.mat (Nat.le_refl _) (PM_len _ _) par_rows hN28 rfl hd hz T1.out)
    try unfold cdv at C
    refine C.mono ?_
    rintro e w6 ⟨⟨b, rfl, hbi⟩, hb⟩
    clear C
    have hbp := Lib.hid hb
    replace X := Lib.hid (X.out.below hb X.out.lt)
    replace M1 := Lib.hid (M1.out.keep hb)
    replace T1 := Lib.hid (T1.out.on hb)
    replace E : Hid (Below w.heap.size w w6) := E.out.trans (hb.mono E.out.size)
    clear hb
    go_wp2_with fail
    refine planPostL_normal ⟨.inr hbp.out, hK _ _ ?_⟩
    clear hK K hbp
    have hbi2 := Lib.hid (hbi.trans hyes.out)
    clear hbi
    iterate 2 (refine wpPlanM_plain rfl (fun K hK => ?_); go_simp; refine hK _ ?_; clear hK K)
    refine wpPlanM_nil ?_
    go_wp2_with fail
    go_ret
    exact ⟨⟨b, rfl, hbi2.out⟩, E.out⟩
end Go.Proofs.YtgajlgnniidgmaaDoor
