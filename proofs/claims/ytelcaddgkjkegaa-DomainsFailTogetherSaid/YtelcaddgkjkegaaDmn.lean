/-
  Stage 10 (domain): the iterator over the pieces of a layout.
-/
import Derived.Test.YtelcaddgkjkegaaDmm
namespace Go.Proofs.Ytelcaddgkjkegaa
set_option linter.unusedVariables false
set_option linter.unusedSimpArgs false
open Go.RowKit Go.Shelf
attribute [local go_sem] Oper.semAt_some

/-- A piece that is on a disk, and its domain. -/
abbrev PN (d : Dm) (lv : Int) := {p : Nat × Nat // p.1 < 24 ∧ (p.2 : Int) < d.size lv}
theorem pn_ok {d : Dm} {lv x : Int} (h : 0 ≤ d.of lv x) : ((d.of lv x).toNat : Int) < d.size lv := by
  have := (Dm.of_lt h).1
  omega
/-- What has come when k pieces are over. -/
def pcs (d : Dm) (lv : Int) (L : List Int) : Nat → List (PN d lv)
  | 0 => []
  | k + 1 => pcs d lv L k ++ if h : k < 24 ∧ 0 ≤ d.of lv (L.getD k 0) then [⟨(k, (d.of lv (L.getD k 0)).toNat), ⟨h.1, pn_ok h.2⟩⟩] else []
theorem pcs_yes {d : Dm} {lv : Int} {L : List Int} {k : Nat} (h1 : k < 24) (h2 : 0 ≤ d.of lv (L.getD k 0)) : pcs d lv L (k + 1) = pcs d lv L k ++ [⟨(k, (d.of lv (L.getD k 0)).toNat), ⟨h1, pn_ok h2⟩⟩] := by
  rw [pcs, dif_pos ⟨h1, h2⟩]
theorem pcs_no {d : Dm} {lv : Int} {L : List Int} {k : Nat} (h2 : ¬ 0 ≤ d.of lv (L.getD k 0)) : pcs d lv L (k + 1) = pcs d lv L k := by
  rw [pcs, dif_neg (fun h => h2 h.2), List.append_nil]
theorem pcs_len (d : Dm) (lv : Int) (L : List Int) : ∀ k, (pcs d lv L k).length ≤ k
  | 0 => by simp [pcs]
  | k + 1 => by
    have := pcs_len d lv L k
    rw [pcs, List.length_append]
    split <;> simp <;> omega
/-- All that come. -/
def pcsA (d : Dm) (lv : Int) (L : List Int) : List (PN d lv) := pcs d lv (Dm.cap L) (Dm.cap L).length
theorem pcsA_few {d : Dm} {lv : Int} {L : List Int} (h : L.length ≤ 24) : pcsA d lv L = pcs d lv L L.length := by unfold pcsA Dm.cap; rw [if_pos h]
theorem pcsA_many {d : Dm} {lv : Int} {L : List Int} (h : ¬ L.length ≤ 24) : pcsA d lv L = [] := by unfold pcsA Dm.cap; rw [if_neg h]; rfl

set_option maxRecDepth 100000 in
theorem pieces_v (h : Hd) (lv : Int) (A : Option Addr) (n c : Nat) (w : World) : Calls Try.prog 23 #[h.val, .int .i64 lv, .slice A n c] w fun e w' => e = .returned (.func (.func 30) #[] #[.pointer (some ⟨w.heap.size + 1 + 1, 0, none⟩), .pointer (some ⟨w.heap.size, 0, none⟩), .pointer (some ⟨w.heap.size + 1, 0, none⟩)]) ∧
    w' = ((w.alloc (.cells h.cells.toArray 25)).alloc (.cells #[.int .i64 lv] 3)).alloc (.cells #[.slice A n c] 22) := by
  unfold Hd.val Hd.cells
  go_enter Try.func23, Try.ntmps23
  go_wp2_with fail
  go_ret
  exact ⟨rfl, rfl⟩

set_option maxRecDepth 100000 in
set_option maxHeartbeats 4000000 in
theorem pieces1_in {B : Nat} (n : Nat) (l bp bd bl : Nat) (h : Hd) (d : Dm) (lv : Int) (L : List Int) (A : Option Addr) (np c : Nat) (J Jx : List (PN d lv) → World → Prop)
    (hJ : ∀ pre A C, J pre A → Below A.heap.size A C → J pre C)
    (hY : ∀ pre x W, J pre W → pre.length < 24 → YieldAt Fence.wide (n - 1) Try.prog l #[.int .i64 (x.1.1 : Int), .int .i64 (x.1.2 : Int)] W fun e W' =>
      (e = .returned (.bool true) ∧ J (pre ++ [x]) W' ∧ KeepI B [] W W') ∨ (e = .returned (.bool false) ∧ Jx (pre ++ [x]) W'))
    (W : World) (hm : DomM W B h d) (hL : Rds W B A (L.map iv)) (hnp : np = L.length) (hnl : np ≤ 140737488355328) (kd : Blk W bd h.cells 25) (kl : Blk W bl [.int .i64 lv] 3) (kp : Blk W bp [.slice A np c] 22) (h0 : J [] W) :
    CallsIn Fence.wide n Try.prog 30 #[.func (.yield l) #[] #[], .pointer (some ⟨bp, 0, none⟩), .pointer (some ⟨bd, 0, none⟩), .pointer (some ⟨bl, 0, none⟩)] W fun e W' => (∃ v, e = .returned v) ∧
      ((∃ ys, ys = pcsA d lv L ∧ J ys W') ∨ (∃ pre, True ∧ Jx pre W')) := by
  have hro : Fence.wide.round = none := rfl
  have hm' := Lib.hid hm
  have hL' := Lib.hid hL
  have hnp' := Lib.hid hnp
  have hdd := Lib.hid size_dom
  have hun : Hid (Try.prog.underlying 25 = _) := Try.underlying25
  have hJ' := Lib.hid hJ
  have hY' := Lib.hid hY
  have h0' := Lib.hid h0
  have kd0 := Lib.hid kd
  have kl' := Lib.hid kl
  have kp' := Lib.hid kp
  have kd' := kd0
  have hlts : Hid (bd < W.heap.size ∧ bl < W.heap.size ∧ bp < W.heap.size) := ⟨kd.lt, kl.lt, kp.lt⟩
  unfold Hd.cells at kd'
  have CF := Lib.hid (finder_any h d lv W hm)
  have p1 := kp.cell (j := 0) rfl
  have p2 := kl.cell (j := 0) rfl
  unfold Hd.val at CF
  clear hm hJ hY kd kl kp h0 hL hnp
  by_cases hmany : (24 : Int) < (np : Int)
  · have hz : Hid (J (pcsA d lv L) W) := by show J _ _; rw [pcsA_many (by rw [← hnp'.out]; omega)]; exact h0'.out
    refine callsIn_of_wp Try.func30 rfl trivial ?_ hro
    simp only [Try.ntmps30, List.size_toArray, List.length_cons, List.length_nil, Nat.reduceAdd, Nat.reduceSub, Array.replicate_succ, Array.replicate_zero, List.push_toArray, List.append_toArray, List.nil_append, List.cons_append]
    gi_wp2_with fail
    refine bodyPost_ret (results_none rfl _ _ _) rfl ?_
    exact ⟨⟨_, rfl⟩, .inl ⟨_, rfl, hz.out⟩⟩
  have hfew : Hid (pcsA d lv L = pcs d lv L np) := by show _ = _; rw [pcsA_few (by rw [← hnp'.out]; omega), hnp'.out]
  refine callsIn_of_wp Try.func30 rfl trivial ?_ hro
  simp only [Try.ntmps30, List.size_toArray, List.length_cons, List.length_nil, Nat.reduceAdd, Nat.reduceSub, Array.replicate_succ, Array.replicate_zero, List.push_toArray, List.append_toArray, List.nil_append, List.cons_append]
  gi_wp2_with (first | (refine wpListIn_blkD rfl 25 _ rfl 0 rfl kd'.out [.slice h.a1 h.n1 h.c1, .slice h.a2 h.n2 h.c2, .slice h.a3 h.n3 h.c3, .int .i64 h.o] (take_all0 _) _ hun.out rfl hdd.out ?_) | (refine ⟨trivial, (fun hh => (by cases hh)), ?_⟩; gi_at_call 26; refine (callsIn_wide.2 CF.out).mono ?_; rintro e w4 ⟨v, rfl, ⟨f, cap, rfl, hcf, hC⟩, hb4⟩; have hB4 := Lib.hid hb4; have hC' := Lib.hid hC; have pp4 := (kp'.out.below hb4 kp'.out.lt).cell (j := 0) rfl; clear hC hb4 p1 p2))
  have J4 := Lib.hid (hJ'.out [] W w4 h0'.out hB4.out)
  have hB0 : Hid (B ≤ w4.heap.size) := Nat.le_trans hm'.out.le hB4.out.size
  have hL4 := Lib.hid (hL'.out.below (hB4.out.mono hm'.out.le))
  clear pp4 CF
  gi_loopw [17] (fun i wr => ∃ k : Nat, k ≤ np ∧ i = .int .i64 k ∧ Hid (J (pcs d lv L k) wr) ∧ Hid (KeepI B [] w4 wr)) (fun i _ => np - (intOf i).toNat)
  case atStart => exact ⟨0, by omega, rfl, J4, KeepI.refl _ _ _⟩
  case round =>
    obtain ⟨k, hk, rfl, hJk, hKI⟩ := hrel
    by_cases hlt : k < np
    · have t : (k : Int) < (np : Int) := by omega
      have t0 : 0 ≤ (k : Int) := by omega
      have hk24 : k < 24 := by omega
      have hBr : Hid (B ≤ wr.heap.size) := Nat.le_trans hB0.out hKI.out.1.1.size
      obtain ⟨y, hy⟩ : ∃ y, L[k]? = some y := ⟨_, List.getElem?_eq_getElem (by rw [← hnp'.out]; exact hlt)⟩
      have hyd : Hid (L.getD k 0 = y) := by show _ = _; rw [List.getD_eq_getElem?_getD, hy]; rfl
      obtain ⟨ad, rfl, hab, hca⟩ := (hL4.out.below hKI.out.1.1).look (k := k) (u := iv y) (by rw [List.getElem?_map, hy]; rfl)
      obtain ⟨x, hx0⟩ : ∃ x, x = d.of lv y := ⟨_, rfl⟩
      have HQ : Hid (Calls Try.prog f (iv y :: cap).toArray wr fun e W' => e = .returned (iv x) ∧ ∃ k, W' = wr.drewN k) := by
        rw [hx0]
        exact hC'.out wr hKI.out.1 y trivial
      have hx : Hid (d.of lv (L.getD k 0) = x) := by show _ = _; rw [hyd.out, hx0]
      unfold iv at HQ hca
      have HB : Hid (∀ q, Below wr.heap.size wr (wr.drewN q)) := fun q => below_drewN (Below.refl _ _) q
      clear hx0 hy
      gi_wp2_with fail
      refine ⟨trivial, (fun hh => (by cases hh)), ?_⟩
      refine (callsIn_wide.2 HQ.out).mono ?_
      rintro e w5 ⟨rfl, q5, rfl⟩
      have hkk := Lib.hid (KeepI.of (B := B) (bs := []) (HB.out q5) hBr.out (by simp))
      by_cases h00 : 0 ≤ x
      · have hLn := Lib.hid (pcs_yes (d := d) (lv := lv) (L := L) hk24 (by rw [hx.out]; exact h00))
        have HY := hY'.out _ ⟨(k, (d.of lv (L.getD k 0)).toNat), ⟨hk24, pn_ok (by rw [hx.out]; exact h00)⟩⟩ (wr.drewN q5) (hJ'.out _ wr _ hJk.out (HB.out q5)) (by have := pcs_len d lv L k; omega)
        rw [← hLn.out] at HY
        have HY1 := yieldOne HY
        have hxn : (((d.of lv (L.getD k 0)).toNat : Nat) : Int) = x := by rw [hx.out]; omega
        dsimp only at HY1
        rw [hxn] at HY1
        obtain ⟨fn, tmps, assign, body, hy, hR⟩ := HY1
        clear HY
        have hnt : (!true) = false := rfl
        have hnf : (!false) = true := rfl
        gi_wp2_with (refine ⟨(fun hh => (by cases hh)), RoundIn.mono hR ?_⟩; rintro e w6 ⟨_ | _, rfl, hb⟩)
        all_goals (have hbb := hb.out)
        all_goals (first | (refine bodyPost_ret (results_none rfl _ _ _) rfl ?_; exact ⟨⟨_, rfl⟩, .inr ⟨_, trivial, by simpa using hbb⟩⟩) | (simp only [if_true] at hbb; exact ⟨⟨k + 1, by omega, by go_num, hbb.1, hKI.out.trans (hkk.out.trans hbb.2)⟩, by simp [intOf]; omega⟩))
      · have hLn := Lib.hid (pcs_no (d := d) (lv := lv) (L := L) (k := k) (by rw [hx.out]; exact h00))
        gi_wp2_with fail
        refine ⟨fun _ h => (by cases h), ?_⟩
        gi_wp2_with fail
        exact ⟨⟨k + 1, by omega, by go_num, by rw [hLn.out]; exact hJ'.out _ wr _ hJk.out (HB.out q5), hKI.out.trans hkk.out⟩, by simp [intOf]; omega⟩
    · have t : ¬ (k : Int) < (np : Int) := by omega
      obtain rfl : k = np := by omega
      have hfin : Hid (J (pcsA d lv L) wr) := by show J _ _; rw [hfew.out]; exact hJk.out
      gi_wp2_with fail
      go_end0
      first | exact ⟨⟨_, rfl⟩, .inl hfin.out⟩ | exact ⟨⟨_, rfl⟩, .inl ⟨_, rfl, hfin.out⟩⟩

theorem pieces_stops {B : Nat} (n : Nat) (bp bd bl : Nat) (h : Hd) (d : Dm) (lv : Int) (L : List Int) (A : Option Addr) (np c : Nat) (w : World) (hm : DomM w B h d) (hL : Rds w B A (L.map iv)) (hnp : np = L.length) (hnl : np ≤ 140737488355328) (kd : Blk w bd h.cells 25) (kl : Blk w bl [.int .i64 lv] 3) (kp : Blk w bp [.slice A np c] 22) :
    SeqStopsK Fence.wide n Try.prog 30 #[.pointer (some ⟨bp, 0, none⟩), .pointer (some ⟨bd, 0, none⟩), .pointer (some ⟨bl, 0, none⟩)] (fun x : PN d lv => #[Value.int .i64 (x.1.1 : Int), Value.int .i64 (x.1.2 : Int)]) (KeepI B []) (fun ys => ys = pcsA d lv L) (fun _ => True) 24 w := fun l J Jx W hW hJ _ hY h0 =>
  pieces1_in n l bp bd bl h d lv L A np c J Jx (fun pre A C hA hb => hJ pre A C none hA (grown_none hb none) (fun r e => by cases e)) hY W (hm.below hW) (hL.below (hW.mono hm.le)) hnp hnl (kd.below hW kd.lt) (kl.below hW kl.lt) (kp.below hW kp.lt) h0
end Go.Proofs.Ytelcaddgkjkegaa
