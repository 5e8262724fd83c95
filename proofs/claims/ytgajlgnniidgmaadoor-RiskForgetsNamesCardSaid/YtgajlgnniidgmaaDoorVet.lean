/-
  Stage 12 (risk): Check. Stage 12 (risk): Check. Stage 12 (risk): Total, Loss, Lost, scaled. Stage 12 (risk): the weights of all sets make up 16^n (maths); cmp.Compare, cmp.Or; Lost. Stage 12 (risk), maths: sums over all sets of domains, as polynomials in each chance: what a domain decides, what grows, what an exchange of two domains does.
-/
import Derived.Test.YtgajlgnniidgmaaDoorVad
namespace Go.Proofs.YtgajlgnniidgmaaDoor
set_option linter.unusedVariables false
set_option linter.unusedSimpArgs false
open Go.RowKit Go.Maps

theorem any_take_next12 {α : Type} {P : α → Bool} {l : List α} {k : Nat} {x : α} (h : (l.take k).any P = false) (hx : l[k]? = some x) (hp : P x = false) : (l.take (k + 1)).any P = false := by
  rw [List.take_add_one, hx, List.any_append, h]
  simp [hp]

set_option maxRecDepth 100000 in
set_option maxHeartbeats 1000000 in
/-- slices.IndexFunc over integers. -/
theorem indexI12_of {B : Nat} (f : Nat) (cap : List Value) (P : Int → Bool) (l : List Int) (A : Option Addr) (n c : Nat) (w : World) (hn : n = l.length) (h : Rds w B A (l.map iv)) (hB : B ≤ w.heap.size) (hl : n ≤ 140737488355328) (hcf : ∀ (args : Array Value) (W : World), (callFunc f args).run Tryd.prog W = .ok (.enter f args) W)
    (HG : ∀ (x : Int), x ∈ l → ∀ W, Below w.heap.size w W → Calls Tryd.prog f (iv x :: cap).toArray W fun e W' => e = .returned (.bool (P x)) ∧ Below W.heap.size W W') :
    Calls Tryd.prog 58 #[.slice A n c, .func (.func f) #[] cap.toArray] w fun e w' => (∃ z : Int, e = .returned (.int .i64 z) ∧ decide (0 ≤ z) = l.any P) ∧ Below w.heap.size w w' := by
  have HG' := Lib.hid HG
  have h' := Lib.hid h
  have hn' := Lib.hid hn
  have hB' := Lib.hid hB
  clear HG h hn hB
  go_enter Tryd.func58, Tryd.ntmps58
  go_wp2_with fail
  go_loopw [8] (fun i wr => ∃ k : Nat, k ≤ n ∧ i = .int .i64 k ∧ Hid ((l.take k).any P = false) ∧ Hid (Below w.heap.size w wr)) (fun i _ => n - (intOf i).toNat)
  case atStart => exact ⟨0, by omega, rfl, rfl, Below.refl _ _⟩
  case round =>
    obtain ⟨k, hk, rfl, hno, hBw⟩ := hrel
    by_cases hlt : k < n
    · obtain ⟨x, hx⟩ : ∃ x, l[k]? = some x := ⟨_, List.getElem?_eq_getElem (by rw [← hn'.out]; exact hlt)⟩
      obtain ⟨ad, rfl, hab, hc⟩ := (h'.out.below (hBw.out.mono hB'.out)).look (k := k) (u := iv x) (by rw [List.getElem?_map, hx]; rfl)
      have HC := Lib.hid (HG'.out x (List.mem_of_getElem? hx) wr hBw.out)
      have t : (k : Int) < (n : Int) := by omega
      have t0 : 0 ≤ (k : Int) := by omega
      have hx' := Lib.hid hx
      obtain ⟨r, hr⟩ : ∃ r, P x = r := ⟨_, rfl⟩
      rw [hr] at HC
      have hr' := Lib.hid hr
      unfold iv at hc HC
      clear hx hr
      go_wp2_with fail
      refine HC.out.mono ?_
      rintro e w2 ⟨rfl, hb2⟩
      have hB2 := Lib.hid (hBw.out.trans (hb2.mono hBw.out.size))
      clear hb2 hc
      cases r with
      | true =>
        go_wp2_with fail
        go_ret
        refine ⟨⟨(k : Int), rfl, ?_⟩, hB2.out⟩
        have e0 : decide (0 ≤ (k : Int)) = true := decide_eq_true (by omega)
        exact e0.trans (List.any_eq_true.2 ⟨x, List.mem_of_getElem? hx'.out, hr'.out⟩).symm
      | false =>
        have hnext := Lib.hid (any_take_next12 hno.out hx'.out hr'.out)
        go_wp2_with fail
        go_roundw
        case rel => exact ⟨k + 1, by omega, by go_num, hnext, hB2⟩
        case measure => simp [intOf]; omega
    · have t : ¬ (k : Int) < (n : Int) := by omega
      have hfin : Hid (l.any P = false) := by
        have := hno.out
        rw [List.take_of_length_le (by have := hn'.out; omega)] at this
        exact this
      go_wp2_with fail
      go_ret
      exact ⟨⟨-1, rfl, by rw [hfin.out]; exact decide_eq_false (by decide)⟩, hBw.out⟩

set_option maxRecDepth 100000 in
set_option maxHeartbeats 1000000 in
theorem containsI12_of {B : Nat} (f : Nat) (cap : List Value) (P : Int → Bool) (l : List Int) (A : Option Addr) (n c : Nat) (w : World) (hn : n = l.length) (h : Rds w B A (l.map iv)) (hB : B ≤ w.heap.size) (hl : n ≤ 140737488355328) (hcf : ∀ (args : Array Value) (W : World), (callFunc f args).run Tryd.prog W = .ok (.enter f args) W)
    (HG : ∀ (x : Int), x ∈ l → ∀ W, Below w.heap.size w W → Calls Tryd.prog f (iv x :: cap).toArray W fun e W' => e = .returned (.bool (P x)) ∧ Below W.heap.size W W') :
    Calls Tryd.prog 43 #[.slice A n c, .func (.func f) #[] cap.toArray] w fun e w' => e = .returned (.bool (l.any P)) ∧ Below w.heap.size w w' := by
  have H := Lib.hid (indexI12_of f cap P l A n c w hn h hB hl hcf HG)
  clear HG h hn
  go_enter Tryd.func43, Tryd.ntmps43
  go_wp2_with fail
  refine H.out.mono ?_
  rintro e w' ⟨⟨z, rfl, hz⟩, hb⟩
  have hz' := Lib.hid hz
  clear hz
  go_wp2_with fail
  go_ret
  exact ⟨by rw [← hz'.out]; rfl, hb⟩


def badA (n : Nat) (d : Int) : Bool := decide (d < -1) || decide ((n : Int) ≤ d)
def badC (c : Int) : Bool := decide (c < 0) || decide (16 < c)
/-- The first error of a peril. -/
def chkP (p : Prl) : Int :=
  if chkE p.D p.Gs p.G ≠ 0 then chkE p.D p.Gs p.G
  else if 12 < p.ch.length then 2
  else if (p.al.length : Int) ≠ p.D + p.Gs.length + p.G then 1
  else if p.al.any (badA p.ch.length) = true then 1
  else if p.ch.any badC = true then 3 else 0
/-- What a peril without an error keeps. -/
structure PrlOk (p : Prl) : Prop where
  cod : chkE p.D p.Gs p.G = 0
  l12 : p.ch.length ≤ 12
  pcs : (p.al.length : Int) = p.D + p.Gs.length + p.G
  al : ∀ d ∈ p.al, -1 ≤ d ∧ d < p.ch.length
  ch : ∀ c ∈ p.ch, 0 ≤ c ∧ c ≤ 16
theorem chkP_ok {p : Prl} : chkP p = 0 ↔ PrlOk p := by
  unfold chkP
  constructor
  · intro h
    by_cases h1 : chkE p.D p.Gs p.G = 0
    · rw [if_neg (fun hh => hh h1)] at h
      by_cases h2 : 12 < p.ch.length
      · rw [if_pos h2] at h; omega
      rw [if_neg h2] at h
      by_cases h3 : (p.al.length : Int) ≠ p.D + p.Gs.length + p.G
      · rw [if_pos h3] at h; omega
      rw [if_neg h3] at h
      cases h4 : p.al.any (badA p.ch.length) with
      | true => rw [h4, if_pos rfl] at h; omega
      | false =>
        rw [h4, if_neg (by simp)] at h
        cases h5 : p.ch.any badC with
        | true => rw [h5, if_pos rfl] at h; omega
        | false =>
          refine ⟨h1, by omega, by omega, fun d hd => ?_, fun c hc => ?_⟩
          · have := List.any_eq_false.1 h4 d hd
            unfold badA at this
            simp only [Bool.or_eq_true, decide_eq_true_eq, not_or] at this
            omega
          · have := List.any_eq_false.1 h5 c hc
            unfold badC at this
            simp only [Bool.or_eq_true, decide_eq_true_eq, not_or] at this
            omega
    · rw [if_pos h1] at h; exact absurd h h1
  · rintro ⟨h1, h2, h3, h4, h5⟩
    rw [if_neg (fun hh => hh h1), if_neg (by omega), if_neg (by omega), if_neg, if_neg]
    · intro hh
      obtain ⟨c, hc, hb⟩ := List.any_eq_true.1 hh
      have := h5 c hc
      unfold badC at hb
      simp only [Bool.or_eq_true, decide_eq_true_eq] at hb
      omega
    · intro hh
      obtain ⟨c, hc, hb⟩ := List.any_eq_true.1 hh
      have := h4 c hc
      unfold badA at hb
      simp only [Bool.or_eq_true, decide_eq_true_eq] at hb
      omega

set_option maxRecDepth 100000 in
set_option maxHeartbeats 1000000 in
theorem rcheck1_any (d : Int) (n g : Nat) (w : World) (hb : Blk w g [.int .i64 n] 3) :
    Calls Tryd.prog 44 #[iv d, .pointer (some ⟨g, 0, none⟩)] w fun e w' => e = .returned (.bool (badA n d)) ∧ Below w.heap.size w w' := by
  have p0 := hb.cell (j := 0) rfl
  unfold iv
  by_cases h1 : d < -1
  · rw [show badA n d = true by unfold badA; simp only [Bool.or_eq_true, decide_eq_true_eq]; omega]
    go_enter Tryd.func44, Tryd.ntmps44
    go_wp2_with fail
    go_ret
    exact ⟨rfl, Below.refl _ _⟩
  · by_cases h2 : d ≥ (n : Int)
    · rw [show badA n d = true by unfold badA; simp only [Bool.or_eq_true, decide_eq_true_eq]; omega]
      go_enter Tryd.func44, Tryd.ntmps44
      go_wp2_with fail
      go_ret
      exact ⟨rfl, Below.refl _ _⟩
    · rw [show badA n d = false by unfold badA; rw [Bool.or_eq_false_iff, decide_eq_false_iff_not, decide_eq_false_iff_not]; omega]
      go_enter Tryd.func44, Tryd.ntmps44
      go_wp2_with fail
      go_ret
      exact ⟨rfl, Below.refl _ _⟩
set_option maxRecDepth 100000 in
set_option maxHeartbeats 1000000 in
theorem rcheck2_any (c : Int) (w : World) :
    Calls Tryd.prog 45 #[iv c] w fun e w' => e = .returned (.bool (badC c)) ∧ Below w.heap.size w w' := by
  unfold iv
  by_cases h1 : c < 0
  · rw [show badC c = true by unfold badC; simp only [Bool.or_eq_true, decide_eq_true_eq]; omega]
    go_enter Tryd.func45, Tryd.ntmps45
    go_wp2_with fail
    go_ret
    exact ⟨rfl, Below.refl _ _⟩
  · by_cases h2 : c > 16
    · rw [show badC c = true by unfold badC; simp only [Bool.or_eq_true, decide_eq_true_eq]; omega]
      go_enter Tryd.func45, Tryd.ntmps45
      go_wp2_with fail
      go_ret
      exact ⟨rfl, Below.refl _ _⟩
    · rw [show badC c = false by unfold badC; rw [Bool.or_eq_false_iff, decide_eq_false_iff_not, decide_eq_false_iff_not]; omega]
      go_enter Tryd.func45, Tryd.ntmps45
      go_wp2_with fail
      go_ret
      exact ⟨rfl, Below.refl _ _⟩
end Go.Proofs.YtgajlgnniidgmaaDoor

namespace Go.Proofs.YtgajlgnniidgmaaDoor
set_option linter.unusedVariables false
set_option linter.unusedSimpArgs false
open Go.RowKit Go.Maps

theorem chkP_1 {p : Prl} (h : chkE p.D p.Gs p.G ≠ 0) : chkP p = chkE p.D p.Gs p.G := by unfold chkP; rw [if_pos h]
theorem chkP_2 {p : Prl} (h : chkE p.D p.Gs p.G = 0) (h2 : 12 < p.ch.length) : chkP p = 2 := by unfold chkP; rw [if_neg (fun hh => hh h), if_pos h2]
theorem chkP_3 {p : Prl} (h : chkE p.D p.Gs p.G = 0) (h2 : ¬ 12 < p.ch.length) (h3 : (p.al.length : Int) ≠ p.D + p.Gs.length + p.G) : chkP p = 1 := by unfold chkP; rw [if_neg (fun hh => hh h), if_neg h2, if_pos h3]
theorem chkP_4 {p : Prl} (h : chkE p.D p.Gs p.G = 0) (h2 : ¬ 12 < p.ch.length) (h3 : (p.al.length : Int) = p.D + p.Gs.length + p.G) (h4 : p.al.any (badA p.ch.length) = true) : chkP p = 1 := by unfold chkP; rw [if_neg (fun hh => hh h), if_neg h2, if_neg (fun hh => hh h3), if_pos h4]
theorem chkP_5 {p : Prl} (h : chkE p.D p.Gs p.G = 0) (h2 : ¬ 12 < p.ch.length) (h3 : (p.al.length : Int) = p.D + p.Gs.length + p.G) (h4 : p.al.any (badA p.ch.length) = false) (h5 : p.ch.any badC = true) : chkP p = 3 := by
  unfold chkP; rw [if_neg (fun hh => hh h), if_neg h2, if_neg (fun hh => hh h3), h4, if_neg (by simp), if_pos h5]
theorem chkP_6 {p : Prl} (h : chkE p.D p.Gs p.G = 0) (h2 : ¬ 12 < p.ch.length) (h3 : (p.al.length : Int) = p.D + p.Gs.length + p.G) (h4 : p.al.any (badA p.ch.length) = false) (h5 : p.ch.any badC = false) : chkP p = 0 := by
  unfold chkP; rw [if_neg (fun hh => hh h), if_neg h2, if_neg (fun hh => hh h3), h4, if_neg (by simp), h5, if_neg (by simp)]

set_option maxRecDepth 100000 in
set_option maxHeartbeats 8000000 in
theorem rcheck_any {B : Nat} (p : Prl) (w : World) (hM : PerM w B p) :
    Calls Tryd.prog 22 #[prv p] w fun e w' => e = .returned (.int .i64 (chkP p)) ∧ Below w.heap.size w w' := by
  have k1 := Lib.hid (@chkP_1 p)
  have k2 := Lib.hid (@chkP_2 p)
  have k3 := Lib.hid (@chkP_3 p)
  have k4 := Lib.hid (@chkP_4 p)
  have k5 := Lib.hid (@chkP_5 p)
  have k6 := Lib.hid (@chkP_6 p)
  obtain ⟨Z, hZ⟩ : ∃ z, z = chkP p := ⟨_, rfl⟩
  rw [← hZ] at k1 k2 k3 k4 k5 k6 ⊢
  clear hZ
  rcases p with ⟨D, A, n, c, G, Gs, A1, n1, c1, al, A2, n2, c2, ch⟩
  unfold prv prc
  dsimp only at k1 k2 k3 k4 k5 k6 ⊢
  obtain ⟨q, hq⟩ : ∃ q : Prl, q = ⟨D, A, n, c, G, Gs, A1, n1, c1, al, A2, n2, c2, ch⟩ := ⟨_, rfl⟩
  rw [← hq] at hM
  have hn1 : Hid (n1 = al.length) := by show n1 = al.length; rw [hq] at hM; exact hM.n1
  have hn2 : Hid (n2 = ch.length) := by show n2 = ch.length; rw [hq] at hM; exact hM.n2
  have hcd : Hid (∀ W, PerM W B q → CodM W B D A n c G Gs) := fun W m => by rw [hq] at m; exact m.cod
  have hal : Hid (∀ W, PerM W B q → Rds W B A1 (al.map iv)) := fun W m => by rw [hq] at m; exact m.al
  have hch : Hid (∀ W, PerM W B q → Rds W B A2 (ch.map iv)) := fun W m => by rw [hq] at m; exact m.ch
  have hs1 : n1 ≤ 140737488355328 := by rw [hq] at hM; exact hM.s1
  have hs2 : n2 ≤ 140737488355328 := by rw [hq] at hM; exact hM.s2
  obtain ⟨W1, hW1⟩ : ∃ W1, W1 = w.alloc (.cells #[.int .i64 D, .slice A n c, .int .i64 G, .slice A1 n1 c1, .slice A2 n2 c2] 27) := ⟨_, rfl⟩
  have E : Hid (Below w.heap.size w W1) := by show Below _ _ _; rw [hW1]; exact (Below.refl _ _).alloc (Nat.le_refl _) _
  have X : Hid (Blk W1 w.heap.size [.int .i64 D, .slice A n c, .int .i64 G, .slice A1 n1 c1, .slice A2 n2 c2] 27) := by show Blk _ _ _ _; rw [hW1]; exact Blk.new _ [_, _, _, _, _] _
  have M := Lib.hid (hM.keep E.out)
  have hW' := Lib.hid hW1
  have hszc := Lib.hid size_cod
  have hunc : Hid (Tryd.prog.underlying 24 = _) := Tryd.underlying24
  have CC := Lib.hid (ccheck_any D G Gs n c A W1 (hcd.out _ M.out))
  obtain ⟨Ck, hCk⟩ : ∃ x, x = chkE D Gs G := ⟨_, rfl⟩
  rw [← hCk] at CC k1 k2 k3 k4 k5 k6
  have hCkH := Lib.hid hCk
  clear hM hW1 hCk hq
  unfold cdv at CC
  go_enter Tryd.func22, Tryd.ntmps22
  go_wp2_with fail
  generalize hg : w.alloc _ = Wg
  have hgW : W1 = Wg := by rw [← hg, hW'.out]
  clear hg hW'
  subst hgW
  go_wp2_with (first | (refine wpList_blk_load rfl 24 _ rfl 0 rfl X.out [_, _, _] rfl _ hunc.out rfl hszc.out ?_) | fail)
  refine CC.out.mono ?_
  rintro e w2 ⟨rfl, hb⟩
  clear CC
  replace X := Lib.hid (X.out.below hb X.out.lt)
  replace M := Lib.hid (M.out.keep hb)
  replace E : Hid (Below w.heap.size w w2) := E.out.trans (hb.mono E.out.size)
  clear hb
  by_cases h0 : Ck = 0
  rotate_left
  · have t0 : (Ck == 0) = false := by simpa using h0
    have hz := Lib.hid (k1.out h0)
    go_wp2_with fail
    go_ret
    exact ⟨(by rw [hz.out]; rfl), E.out⟩
  subst h0
  have p4 := X.out.cell (j := 4) rfl
  have p3 := X.out.cell (j := 3) rfl
  by_cases h2 : 12 < n2
  · have hz : Hid (Z = 2) := k2.out (by first | rfl | trivial) (by have := hn2.out; omega)
    have h2' : (n2 : Int) > 12 := by omega
    go_wp2_with fail
    go_ret
    refine ⟨(by rw [hz.out]; rfl), ?_⟩
    first | exact E.out.alloc E.out.size _ | exact E.out
  have h2' : ¬ (n2 : Int) > 12 := by omega
  have h2H : Hid (¬ 12 < ch.length) := by show ¬ 12 < ch.length; rw [← hn2.out]; exact h2
  go_wp2_with fail
  have NB : Hid (Blk (w2.alloc (.cells #[.int .i64 n2] 3)) w2.heap.size [.int .i64 n2] 3) := Blk.new _ [_] _
  have ha : Below w2.heap.size w2 (w2.alloc (.cells #[.int .i64 n2] 3)) := (Below.refl _ _).alloc (Nat.le_refl _) _
  replace X := Lib.hid (X.out.below ha X.out.lt)
  replace M := Lib.hid (M.out.keep ha)
  replace E : Hid (Below w.heap.size w (w2.alloc (.cells #[.int .i64 n2] 3))) := E.out.trans (ha.mono E.out.size)
  clear p4 p3 ha
  generalize w2.alloc (.cells #[.int .i64 n2] 3) = w3 at *
  generalize w2.heap.size = gd at *
  refine wp_region_planM [] [(true, 0), (true, 1), (true, 2), (true, 3), (true, 4), (false, 5), (true, 6), (true, 7)] (by decide) (by kernel_rfl) (by kernel_rfl) (by decide) (by intro c a d v w h; cases d <;> exact h) ?_
  change wpPlanM _ _ _ _ _ _ w3.drew
  have hb : Below w3.heap.size w3 w3.drew := (Below.refl _ _).drew
  generalize hgd : w3.drew = w4 at hb ⊢
  replace X := Lib.hid (X.out.below hb X.out.lt)
  replace NB := Lib.hid (NB.out.below hb NB.out.lt)
  replace M := Lib.hid (M.out.keep hb)
  replace E : Hid (Below w.heap.size w w4) := E.out.trans (hb.mono E.out.size)
  clear hb hgd
  have p3x : ∀ x : ExtOf w4, x.world.cell? ⟨w.heap.size, 3, none⟩ = some (.slice A1 n1 c1) := fun x => (Blk.below X.out x.ext X.out.lt).cell (j := 3) rfl
  iterate 4 (refine wpPlanM_plain rfl (fun K hK => ?_); go_simp; refine hK _ ?_; clear hK K)
  clear p3x
  refine wpPlanM_runW rfl (by rfl) _ (fun q => load_run 24 _ rfl w.heap.size 0 rfl [.int .i64 D, .slice A n c, .int .i64 G] _ hunc.out rfl hszc.out q.world ((Blk.below X.out q.ext X.out.lt).range 0 _ rfl)) ?_
  refine wpPlanM_call rfl (fun K hK => ?_)
  have CP := pieces_any D G Gs n c A w4 (hcd.out _ M.out)
  rw [← hCkH.out, if_pos rfl] at CP
  unfold cdv at CP
  obtain ⟨pc, hpc⟩ : ∃ x, x = D + Gs.length + G := ⟨_, rfl⟩
  rw [← hpc] at CP k3 k4 k5 k6
  clear hpc
  go_wp2_with fail
  refine CP.mono ?_
  rintro e w5 ⟨rfl, hb⟩
  clear CP
  have hbp := Lib.hid hb
  replace X := Lib.hid (X.out.below hb X.out.lt)
  replace NB := Lib.hid (NB.out.below hb NB.out.lt)
  replace M := Lib.hid (M.out.keep hb)
  replace E : Hid (Below w.heap.size w w5) := E.out.trans (hb.mono E.out.size)
  clear hb
  go_wp2_with fail
  refine planPostL_normal ⟨.inr hbp.out, hK _ _ ?_⟩
  clear hK K hbp
  have p3 := X.out.cell (j := 3) rfl
  have p4 := X.out.cell (j := 4) rfl
  by_cases h3 : (n1 : Int) = pc
  rotate_left
  · have t3 : ((n1 : Int) == pc) = false := by simp only [beq_eq_false_iff_ne, ne_eq]; exact h3
    have hz : Hid (Z = 1) := k3.out (by first | rfl | trivial) h2H.out (by rw [← hn1.out]; exact h3)
    iterate 2 (refine wpPlanM_plain rfl (fun K hK => ?_); go_simp; refine hK _ ?_; clear hK K)
    refine wpPlanM_nil ?_
    go_wp2_with fail
    go_ret
    exact ⟨(by rw [hz.out]; rfl), E.out⟩
  subst h3
  have k4' := Lib.hid (k4.out (by first | rfl | trivial) h2H.out (by rw [← hn1.out]))
  have k5' := Lib.hid (k5.out (by first | rfl | trivial) h2H.out (by rw [← hn1.out]))
  have k6' := Lib.hid (k6.out (by first | rfl | trivial) h2H.out (by rw [← hn1.out]))
  clear k1 k2 k3 k4 k5 k6
  iterate 2 (refine wpPlanM_plain rfl (fun K hK => ?_); go_simp; refine hK _ ?_; clear hK K)
  refine wpPlanM_nil ?_
  have C4 := containsI12_of 44 [.pointer (some ⟨gd, 0, none⟩)] (badA ch.length) al A1 n1 c1 w5 hn1.out (hal.out _ M.out) M.out.le hs1 (enter_of Tryd.func44 (by kernel_rfl) (by kernel_rfl))
    (fun x _ W hW => by
      have := rcheck1_any x n2 gd W (NB.out.below hW NB.out.lt)
      rw [hn2.out] at this
      exact this)
  obtain ⟨b4, hb4⟩ : ∃ b, b = al.any (badA ch.length) := ⟨_, rfl⟩
  rw [← hb4] at C4 k4' k5' k6'
  clear hb4
  go_wp2_with fail
  refine C4.mono ?_
  rintro e w6 ⟨rfl, hb⟩
  clear C4 p3 p4
  replace X := Lib.hid (X.out.below hb X.out.lt)
  replace M := Lib.hid (M.out.keep hb)
  replace E : Hid (Below w.heap.size w w6) := E.out.trans (hb.mono E.out.size)
  clear hb NB
  have p4 := X.out.cell (j := 4) rfl
  cases b4 with
  | true =>
    have hz : Hid (Z = 1) := k4'.out (by first | rfl | trivial)
    go_wp2_with fail
    go_ret
    exact ⟨(by rw [hz.out]; rfl), E.out⟩
  | false =>
    have C5 := containsI12_of 45 [] badC ch A2 n2 c2 w6 hn2.out (hch.out _ M.out) M.out.le hs2 (enter_of Tryd.func45 (by kernel_rfl) (by kernel_rfl)) (fun x _ W hW => rcheck2_any x W)
    obtain ⟨b5, hb5⟩ : ∃ b, b = ch.any badC := ⟨_, rfl⟩
    rw [← hb5] at C5 k5' k6'
    clear hb5
    go_wp2_with fail
    refine C5.mono ?_
    rintro e w7 ⟨rfl, hb⟩
    clear C5
    replace E : Hid (Below w.heap.size w w7) := E.out.trans (hb.mono E.out.size)
    clear hb
    cases b5 with
    | true =>
      have hz : Hid (Z = 3) := k5'.out (by first | rfl | trivial) (by first | rfl | trivial)
      go_wp2_with fail
      go_ret
      exact ⟨(by rw [hz.out]; rfl), E.out⟩
    | false =>
      have hz : Hid (Z = 0) := k6'.out (by first | rfl | trivial) (by first | rfl | trivial)
      go_wp2_with fail
      go_ret
      exact ⟨(by rw [hz.out]; rfl), E.out⟩
end Go.Proofs.YtgajlgnniidgmaaDoor

namespace Go.Proofs.YtgajlgnniidgmaaDoor
set_option linter.unusedVariables false
set_option linter.unusedSimpArgs false
open Go.RowKit Go.Maps

theorem PrlOk.l24 {p : Prl} (h : PrlOk p) : p.al.length ≤ 24 := by
  have h1 := h.pcs
  have h2 := (cchk_ok h.cod).2.2.2.2.1
  omega
theorem PrlOk.a60 {p : Prl} (h : PrlOk p) : ∀ d ∈ p.al, -1 ≤ d ∧ d ≤ 60 := fun d hd => by
  have h1 := h.al d hd
  have h2 := h.l12
  omega

set_option maxRecDepth 100000 in
set_option maxHeartbeats 4000000 in
theorem rTotal_any {B : Nat} (p : Prl) (w : World) (hM : PerM w B p) (ht : PTab 2 w) :
    Calls Tryd.prog 12 #[prv p] w fun e w' => e = .returned (.tuple #[.int .i64 (if chkP p = 0 then ((16 ^ p.ch.length : Nat) : Int) else 0), .int .i64 (chkP p)]) ∧ Below w.heap.size w w' := by
  rcases p with ⟨D, A, n, c, G, Gs, A1, n1, c1, al, A2, n2, c2, ch⟩
  obtain ⟨q, hq⟩ : ∃ q : Prl, q = ⟨D, A, n, c, G, Gs, A1, n1, c1, al, A2, n2, c2, ch⟩ := ⟨_, rfl⟩
  have hqv : Hid (prv q = .agg #[.int .i64 D, .slice A n c, .int .i64 G, .slice A1 n1 c1, .slice A2 n2 c2]) := by rw [hq]; rfl
  rw [← hq] at hM ⊢
  have hnn : Hid (n2 = q.ch.length) := by show n2 = q.ch.length; rw [hq]; rw [hq] at hM; exact hM.n2
  obtain ⟨W1, hW1⟩ : ∃ W1, W1 = w.alloc (.cells #[.int .i64 D, .slice A n c, .int .i64 G, .slice A1 n1 c1, .slice A2 n2 c2] 27) := ⟨_, rfl⟩
  have E : Hid (Below w.heap.size w W1) := by show Below _ _ _; rw [hW1]; exact (Below.refl _ _).alloc (Nat.le_refl _) _
  have X : Hid (Blk W1 w.heap.size [.int .i64 D, .slice A n c, .int .i64 G, .slice A1 n1 c1, .slice A2 n2 c2] 27) := by show Blk _ _ _ _; rw [hW1]; exact Blk.new _ [_, _, _, _, _] _
  have M := Lib.hid (hM.keep E.out)
  have T := Lib.hid (ht.on E.out)
  have hW' := Lib.hid hW1
  have hsz := Lib.hid size_prl
  have hun : Hid (Tryd.prog.underlying 27 = _) := Tryd.underlying27
  clear hM ht hW1 hq
  rw [hqv.out]
  have CC := Lib.hid (rcheck_any q W1 M.out)
  rw [hqv.out] at CC
  obtain ⟨Z, hZ⟩ : ∃ z, z = chkP q := ⟨_, rfl⟩
  rw [← hZ] at CC ⊢
  have hZ' := Lib.hid hZ
  clear hZ
  obtain ⟨V0, hV0⟩ : ∃ v : Int, v = (if Z = 0 then ((16 ^ q.ch.length : Nat) : Int) else 0) := ⟨_, rfl⟩
  rw [← hV0]
  have hV0' := Lib.hid hV0
  clear hV0
  go_enter Tryd.func12, Tryd.ntmps12
  go_wp2_with fail
  generalize hg : w.alloc _ = Wg
  have hgW : W1 = Wg := by rw [← hg, hW'.out]
  clear hg hW'
  subst hgW
  go_wp2_with (first | (refine wpList_blk_load rfl 27 _ rfl 0 rfl X.out [_, _, _, _, _] rfl _ hun.out rfl hsz.out ?_) | fail)
  refine CC.out.mono ?_
  rintro e w2 ⟨rfl, hb⟩
  clear CC
  replace X := Lib.hid (X.out.below hb X.out.lt)
  replace M := Lib.hid (M.out.keep hb)
  replace T := Lib.hid (T.out.on hb)
  replace E : Hid (Below w.heap.size w w2) := E.out.trans (hb.mono E.out.size)
  clear hb
  by_cases h0 : Z = 0
  rotate_left
  · have t0 : (Z == 0) = false := by simpa using h0
    have hz : Hid (V0 = 0) := by show V0 = 0; rw [hV0'.out, if_neg h0]
    go_wp2_with fail
    go_ret2
    exact ⟨(by rw [hz.out]; rfl), E.out⟩
  have OK := Lib.hid (chkP_ok.1 (hZ'.out.symm.trans h0))
  have CT := total_any q w2 M.out OK.out.l12
  rw [hqv.out] at CT
  rw [show ((16 ^ q.ch.length : Nat) : Int) = V0 by rw [hV0'.out, if_pos h0]] at CT
  subst h0
  go_wp2_with (first | (refine wpList_blk_load rfl 27 _ rfl 0 rfl X.out [_, _, _, _, _] rfl _ hun.out rfl hsz.out ?_) | fail)
  refine CT.mono ?_
  rintro e w3 ⟨rfl, hb⟩
  clear CT
  replace X := Lib.hid (X.out.below hb X.out.lt)
  replace M := Lib.hid (M.out.keep hb)
  replace T := Lib.hid (T.out.on hb)
  replace E : Hid (Below w.heap.size w w3) := E.out.trans (hb.mono E.out.size)
  clear hb
  go_wp2_with fail
  go_ret2
  exact ⟨rfl, E.out⟩

set_option maxRecDepth 100000 in
set_option maxHeartbeats 4000000 in
theorem rLoss_any {B : Nat} (p : Prl) (w : World) (hM : PerM w B p) (ht : PTab 2 w) :
    Calls Tryd.prog 14 #[prv p] w fun e w' => e = .returned (.tuple #[.int .i64 (if chkP p = 0 then lsum p (2 ^ p.ch.length) else 0), .int .i64 (chkP p)]) ∧ Below w.heap.size w w' := by
  rcases p with ⟨D, A, n, c, G, Gs, A1, n1, c1, al, A2, n2, c2, ch⟩
  obtain ⟨q, hq⟩ : ∃ q : Prl, q = ⟨D, A, n, c, G, Gs, A1, n1, c1, al, A2, n2, c2, ch⟩ := ⟨_, rfl⟩
  have hqv : Hid (prv q = .agg #[.int .i64 D, .slice A n c, .int .i64 G, .slice A1 n1 c1, .slice A2 n2 c2]) := by rw [hq]; rfl
  rw [← hq] at hM ⊢
  have hnn : Hid (n2 = q.ch.length) := by show n2 = q.ch.length; rw [hq]; rw [hq] at hM; exact hM.n2
  obtain ⟨W1, hW1⟩ : ∃ W1, W1 = w.alloc (.cells #[.int .i64 D, .slice A n c, .int .i64 G, .slice A1 n1 c1, .slice A2 n2 c2] 27) := ⟨_, rfl⟩
  have E : Hid (Below w.heap.size w W1) := by show Below _ _ _; rw [hW1]; exact (Below.refl _ _).alloc (Nat.le_refl _) _
  have X : Hid (Blk W1 w.heap.size [.int .i64 D, .slice A n c, .int .i64 G, .slice A1 n1 c1, .slice A2 n2 c2] 27) := by show Blk _ _ _ _; rw [hW1]; exact Blk.new _ [_, _, _, _, _] _
  have M := Lib.hid (hM.keep E.out)
  have T := Lib.hid (ht.on E.out)
  have hW' := Lib.hid hW1
  have hsz := Lib.hid size_prl
  have hun : Hid (Tryd.prog.underlying 27 = _) := Tryd.underlying27
  clear hM ht hW1 hq
  rw [hqv.out]
  have CC := Lib.hid (rcheck_any q W1 M.out)
  rw [hqv.out] at CC
  obtain ⟨Z, hZ⟩ : ∃ z, z = chkP q := ⟨_, rfl⟩
  rw [← hZ] at CC ⊢
  have hZ' := Lib.hid hZ
  clear hZ
  obtain ⟨V0, hV0⟩ : ∃ v : Int, v = (if Z = 0 then lsum q (2 ^ q.ch.length) else 0) := ⟨_, rfl⟩
  rw [← hV0]
  have hV0' := Lib.hid hV0
  clear hV0
  go_enter Tryd.func14, Tryd.ntmps14
  go_wp2_with fail
  generalize hg : w.alloc _ = Wg
  have hgW : W1 = Wg := by rw [← hg, hW'.out]
  clear hg hW'
  subst hgW
  go_wp2_with (first | (refine wpList_blk_load rfl 27 _ rfl 0 rfl X.out [_, _, _, _, _] rfl _ hun.out rfl hsz.out ?_) | fail)
  refine CC.out.mono ?_
  rintro e w2 ⟨rfl, hb⟩
  clear CC
  replace X := Lib.hid (X.out.below hb X.out.lt)
  replace M := Lib.hid (M.out.keep hb)
  replace T := Lib.hid (T.out.on hb)
  replace E : Hid (Below w.heap.size w w2) := E.out.trans (hb.mono E.out.size)
  clear hb
  by_cases h0 : Z = 0
  rotate_left
  · have t0 : (Z == 0) = false := by simpa using h0
    have hz : Hid (V0 = 0) := by show V0 = 0; rw [hV0'.out, if_neg h0]
    go_wp2_with fail
    go_ret2
    exact ⟨(by rw [hz.out]; rfl), E.out⟩
  have OK := Lib.hid (chkP_ok.1 (hZ'.out.symm.trans h0))
  have CT := loss_any q w2 M.out T.out OK.out.l24 OK.out.a60 OK.out.l12 OK.out.ch
  rw [hqv.out] at CT
  rw [show lsum q (2 ^ q.ch.length) = V0 by rw [hV0'.out, if_pos h0]] at CT
  subst h0
  go_wp2_with (first | (refine wpList_blk_load rfl 27 _ rfl 0 rfl X.out [_, _, _, _, _] rfl _ hun.out rfl hsz.out ?_) | fail)
  refine CT.mono ?_
  rintro e w3 ⟨rfl, hb⟩
  clear CT
  replace X := Lib.hid (X.out.below hb X.out.lt)
  replace M := Lib.hid (M.out.keep hb)
  replace T := Lib.hid (T.out.on hb)
  replace E : Hid (Below w.heap.size w w3) := E.out.trans (hb.mono E.out.size)
  clear hb
  go_wp2_with fail
  go_ret2
  exact ⟨rfl, E.out⟩

set_option maxRecDepth 100000 in
set_option maxHeartbeats 4000000 in
theorem scaled_any {B : Nat} (p : Prl) (w : World) (hM : PerM w B p) (ht : PTab 2 w) (OK : PrlOk p) (hle : lsum p (2 ^ p.ch.length) ≤ 16 ^ p.ch.length) :
    Calls Tryd.prog 36 #[prv p] w fun e w' => e = .returned (.int .i64 (lsum p (2 ^ p.ch.length) * 16 ^ (12 - p.ch.length))) ∧ Below w.heap.size w w' := by
  rcases p with ⟨D, A, n, c, G, Gs, A1, n1, c1, al, A2, n2, c2, ch⟩
  obtain ⟨q, hq⟩ : ∃ q : Prl, q = ⟨D, A, n, c, G, Gs, A1, n1, c1, al, A2, n2, c2, ch⟩ := ⟨_, rfl⟩
  have hqv : Hid (prv q = .agg #[.int .i64 D, .slice A n c, .int .i64 G, .slice A1 n1 c1, .slice A2 n2 c2]) := by rw [hq]; rfl
  rw [← hq] at hM OK hle ⊢
  have hnn : Hid (n2 = q.ch.length) := by show n2 = q.ch.length; rw [hq]; rw [hq] at hM; exact hM.n2
  obtain ⟨W1, hW1⟩ : ∃ W1, W1 = w.alloc (.cells #[.int .i64 D, .slice A n c, .int .i64 G, .slice A1 n1 c1, .slice A2 n2 c2] 27) := ⟨_, rfl⟩
  have E : Hid (Below w.heap.size w W1) := by show Below _ _ _; rw [hW1]; exact (Below.refl _ _).alloc (Nat.le_refl _) _
  have X : Hid (Blk W1 w.heap.size [.int .i64 D, .slice A n c, .int .i64 G, .slice A1 n1 c1, .slice A2 n2 c2] 27) := by show Blk _ _ _ _; rw [hW1]; exact Blk.new _ [_, _, _, _, _] _
  have M := Lib.hid (hM.keep E.out)
  have T := Lib.hid (ht.on E.out)
  have hW' := Lib.hid hW1
  have hsz := Lib.hid size_prl
  have hun : Hid (Tryd.prog.underlying 27 = _) := Tryd.underlying27
  clear hM ht hW1 hq
  rw [hqv.out]
  have CL : Hid (∀ W, PerM W B q → PTab 2 W → Calls Tryd.prog 32 #[prv q] W fun e w' => e = .returned (.int .i64 (lsum q (2 ^ q.ch.length))) ∧ Below W.heap.size W w') := fun W m t => loss_any q W m t OK.l24 OK.a60 OK.l12 OK.ch
  have l0 := (lsum_rng (p := q) OK.l12 OK.ch (2 ^ q.ch.length)).1
  have hl12 : n2 ≤ 12 := by rw [hnn.out]; exact OK.l12
  obtain ⟨V, hV⟩ : ∃ v : Int, v = lsum q (2 ^ q.ch.length) := ⟨_, rfl⟩
  rw [← hV] at CL hle l0 ⊢
  rw [← hnn.out] at hle ⊢
  clear hV OK
  obtain ⟨k, hk⟩ : ∃ k, k = 12 - n2 := ⟨_, rfl⟩
  have e1 : (12 : Int) - (n2 : Int) = (k : Int) := by omega
  have e2 : (4 : Int) * (k : Int) = ((4 * k : Nat) : Int) := by omega
  rw [← hk]
  obtain ⟨R, hR⟩ : ∃ R, R = V * 16 ^ k := ⟨_, rfl⟩
  have hRl : 0 ≤ R ∧ R ≤ 281474976710656 := by
    have h1 : (0 : Int) ≤ 16 ^ k := Int.le_of_lt (Int.pow_pos (by omega))
    refine ⟨by rw [hR]; exact Int.mul_nonneg l0 h1, ?_⟩
    rw [hR]
    refine Int.le_trans (Int.mul_le_mul_of_nonneg_right hle h1) ?_
    rw [← Int.pow_add, show n2 + k = 12 by omega]
    decide
  have e3 : V * (2 : Int) ^ (4 * k) = R := by rw [hR, Int.pow_mul]; rfl
  obtain ⟨r, hr⟩ : ∃ r : Nat, r = 4 * k := ⟨_, rfl⟩
  rw [← hr] at e2 e3
  have fk : IntKind.i64.wrap (k : Int) = (k : Int) := by rw [IntKind.wrap_i64]; omega
  have fr : IntKind.i64.wrap (r : Int) = (r : Int) := by rw [IntKind.wrap_i64]; omega
  have fR : IntKind.i64.wrap R = R := by rw [IntKind.wrap_i64]; omega
  have u1 : ¬ (r : Int) < 0 := by omega
  have u0 : 0 ≤ (r : Int) := by omega
  have um : min r 64 = r := by omega
  rw [← hR]
  clear hR hr hRl hle l0 hk
  go_enter Tryd.func36, Tryd.ntmps36
  go_wp2_with fail
  generalize hg : w.alloc _ = Wg
  have hgW : W1 = Wg := by rw [← hg, hW'.out]
  clear hg hW'
  subst hgW
  refine wp_region_planM [] [(true, 0), (true, 2), (true, 3), (true, 4), (true, 5), (true, 6), (false, 1), (true, 7), (true, 8)] (by decide) (by kernel_rfl) (by kernel_rfl) (by decide) (by intro c a d v w h; cases d <;> exact h) ?_
  change wpPlanM _ _ _ _ _ _ W1.drew
  have hb : Below W1.heap.size W1 W1.drew := (Below.refl _ _).drew
  generalize hgd : W1.drew = w2 at hb ⊢
  replace X := Lib.hid (X.out.below hb X.out.lt)
  replace M := Lib.hid (M.out.keep hb)
  replace T := Lib.hid (T.out.on hb)
  replace E : Hid (Below w.heap.size w w2) := E.out.trans (hb.mono E.out.size)
  clear hb
  have p4x : ∀ x : ExtOf w2, x.world.cell? ⟨w.heap.size, 4, none⟩ = some (.slice A2 n2 c2) := fun x => (Blk.below X.out x.ext X.out.lt).cell (j := 4) rfl
  refine wpPlanM_runW rfl (by rfl) _ (fun q => load_run 27 _ rfl w.heap.size 0 rfl [.int .i64 D, .slice A n c, .int .i64 G, .slice A1 n1 c1, .slice A2 n2 c2] _ hun.out rfl hsz.out q.world ((Blk.below X.out q.ext X.out.lt).range 0 _ (take_all0 _))) ?_
  iterate 5 (refine wpPlanM_plain rfl (fun K hK => ?_); go_simp; refine hK _ ?_; clear hK K)
  clear p4x
  refine wpPlanM_call rfl (fun K hK => ?_)
  have CT := CL.out w2 M.out T.out
  rw [hqv.out] at CT
  go_wp2_with fail
  refine CT.mono ?_
  rintro e w3 ⟨rfl, hb⟩
  clear CT
  have hbp := Lib.hid hb
  replace X := Lib.hid (X.out.below hb X.out.lt)
  replace M := Lib.hid (M.out.keep hb)
  replace T := Lib.hid (T.out.on hb)
  replace E : Hid (Below w.heap.size w w3) := E.out.trans (hb.mono E.out.size)
  clear hb
  go_wp2_with fail
  refine planPostL_normal ⟨.inr hbp.out, hK _ _ ?_⟩
  clear hK K hbp
  iterate 2 (refine wpPlanM_plain rfl (fun K hK => ?_); go_simp; refine hK _ ?_; clear hK K)
  refine wpPlanM_nil ?_
  go_wp2_with fail
  go_ret
  exact ⟨by first | rfl | (show Ending.returned (.int .i64 _) = _; rw [e3, fR]), E.out⟩
end Go.Proofs.YtgajlgnniidgmaaDoor

namespace Go.Proofs.YtgajlgnniidgmaaDoor
set_option linter.unusedVariables false
set_option linter.unusedSimpArgs false
open Go.RowKit Go.Maps

/-- The product of chances, for a set that is shifted along. -/
def prw : Nat → List Int → Int
  | _, [] => 1
  | f, c :: l => (if f % 2 = 1 then c else 16 - c) * prw (f / 2) l
theorem bit0 (f k : Nat) (c d : Int) : (if f.testBit k = true then c else d) = (if f / 2 ^ k % 2 = 1 then c else d) := by
  have e := Nat.testBit_eq_decide_div_mod_eq (x := f) (i := k)
  by_cases h : f / 2 ^ k % 2 = 1
  · rw [if_pos h, if_pos (by rw [e]; exact decide_eq_true h)]
  · rw [if_neg h, if_neg (by rw [e, decide_eq_false h]; simp)]
theorem wgt_prw (f : Nat) : ∀ (l : List Int) (k : Nat) (u : Int), wgt f l k u = u * prw (f / 2 ^ k) l
  | [], k, u => by rw [wgt, prw, Int.mul_one]
  | c :: l, k, u => by
    rw [wgt, wgt_prw f l, prw, Nat.div_div_eq_div_mul, ← Nat.pow_succ, bit0, Int.mul_assoc]
theorem wgt_prw0 (f : Nat) (l : List Int) : wgt f l 0 1 = prw f l := by rw [wgt_prw, Nat.pow_zero, Nat.div_one, Int.one_mul]
def fsum (h : Nat → Int) : Nat → Int
  | 0 => 0
  | n + 1 => fsum h n + h n
theorem fsum_congr {h g : Nat → Int} : ∀ {n : Nat}, (∀ k, k < n → h k = g k) → fsum h n = fsum g n
  | 0, _ => rfl
  | n + 1, hh => by rw [fsum, fsum, fsum_congr (fun k hk => hh k (by omega)), hh n (by omega)]
theorem fsum_le {h g : Nat → Int} : ∀ {n : Nat}, (∀ k, k < n → h k ≤ g k) → fsum h n ≤ fsum g n
  | 0, _ => Int.le_refl _
  | n + 1, hh => by
    rw [fsum, fsum]
    have h1 := fsum_le (n := n) (fun k hk => hh k (by omega))
    have h2 := hh n (by omega)
    omega
theorem fsum_mul (a : Int) (h : Nat → Int) : ∀ n : Nat, fsum (fun k => a * h k) n = a * fsum h n
  | 0 => by rw [fsum, fsum]; omega
  | n + 1 => by rw [fsum, fsum, fsum_mul a h n, Int.mul_add]
theorem fsum_two (h : Nat → Int) : ∀ n : Nat, fsum h (2 * n) = fsum (fun k => h (2 * k) + h (2 * k + 1)) n
  | 0 => rfl
  | n + 1 => by
    rw [show 2 * (n + 1) = 2 * n + 1 + 1 by omega, fsum, fsum, fsum_two h n, fsum]
    omega
theorem prw_even (k : Nat) (c : Int) (l : List Int) : prw (2 * k) (c :: l) = (16 - c) * prw k l := by
  rw [prw, show 2 * k / 2 = k by omega, if_neg (by omega)]
theorem prw_odd (k : Nat) (c : Int) (l : List Int) : prw (2 * k + 1) (c :: l) = c * prw k l := by
  rw [prw, show (2 * k + 1) / 2 = k by omega, if_pos (by omega)]
/-- All sets together have 16^n. -/
theorem fsum_prw : ∀ l : List Int, fsum (fun f => prw f l) (2 ^ l.length) = 16 ^ l.length
  | [] => by rw [List.length_nil, Nat.pow_zero, fsum, fsum, prw]; rfl
  | c :: l => by
    rw [List.length_cons, show 2 ^ (l.length + 1) = 2 * 2 ^ l.length by rw [Nat.pow_succ]; omega, fsum_two, fsum_congr (g := fun k => 16 * prw k l) (fun k _ => by
      show prw (2 * k) (c :: l) + prw (2 * k + 1) (c :: l) = _
      rw [prw_even, prw_odd, ← Int.add_mul, show 16 - c + c = 16 by omega]), fsum_mul, fsum_prw l, Int.pow_succ]
    omega
open Classical in
theorem lsum_fsum (p : Prl) : ∀ n, lsum p n = fsum (fun f => if LosP p f then prw f p.ch else 0) n
  | 0 => by rw [lsum, fsum]
  | n + 1 => by rw [lsum, fsum, lsum_fsum p n, wgt_prw0]
theorem prw_pos {l : List Int} (hr : ∀ c ∈ l, 0 ≤ c ∧ c ≤ 16) (f : Nat) : 0 ≤ prw f l := by
  rw [← wgt_prw0]
  exact (wgt_rng f l 0 1 hr (by omega) (by omega)).1
theorem lsum_le (p : Prl) (hr : ∀ c ∈ p.ch, 0 ≤ c ∧ c ≤ 16) : lsum p (2 ^ p.ch.length) ≤ 16 ^ p.ch.length := by
  rw [lsum_fsum, ← fsum_prw]
  refine fsum_le (fun k _ => ?_)
  have := prw_pos hr k
  split <;> omega

def cmpI (a b : Int) : Int := if a < b then -1 else if b < a then 1 else 0
set_option maxRecDepth 100000 in
set_option maxHeartbeats 1000000 in
theorem nan12_any (a : Int) (w : World) : Calls Tryd.prog 54 #[.int .i64 a] w fun e w' => e = .returned (.bool false) ∧ w' = w := by
  go_enter Tryd.func54, Tryd.ntmps54
  go_wp2_with fail
  go_ret
  exact ⟨by simp, rfl⟩
set_option maxRecDepth 100000 in
set_option maxHeartbeats 1000000 in
theorem cmp12_any (a b : Int) (w : World) : Calls Tryd.prog 35 #[.int .i64 a, .int .i64 b] w fun e w' => e = .returned (.int .i64 (cmpI a b)) ∧ w' = w := by
  obtain ⟨Z, hZ⟩ : ∃ z, z = cmpI a b := ⟨_, rfl⟩
  rw [← hZ]
  unfold cmpI at hZ
  have n1 := nan12_any a w
  have n2 := nan12_any b w
  by_cases h1 : a < b
  · rw [if_pos h1] at hZ
    have hz := Lib.hid hZ
    clear hZ
    go_enter Tryd.func35, Tryd.ntmps35
    go_wp2_with fail
    refine n1.mono ?_
    rintro e v ⟨rfl, rfl⟩
    go_wp2_with fail
    refine n2.mono ?_
    rintro e v ⟨rfl, rfl⟩
    go_wp2_with fail
    go_ret
    exact ⟨(by rw [hz.out]; rfl), rfl⟩
  · by_cases h2 : b < a
    · rw [if_neg h1, if_pos h2] at hZ
      have hz := Lib.hid hZ
      have h2' : a > b := h2
      clear hZ
      go_enter Tryd.func35, Tryd.ntmps35
      go_wp2_with fail
      refine n1.mono ?_
      rintro e v ⟨rfl, rfl⟩
      go_wp2_with fail
      refine n2.mono ?_
      rintro e v ⟨rfl, rfl⟩
      go_wp2_with fail
      go_ret
      exact ⟨(by rw [hz.out]; rfl), rfl⟩
    · rw [if_neg h1, if_neg h2] at hZ
      have hz := Lib.hid hZ
      have h2' : ¬ a > b := h2
      clear hZ
      go_enter Tryd.func35, Tryd.ntmps35
      go_wp2_with fail
      refine n1.mono ?_
      rintro e v ⟨rfl, rfl⟩
      go_wp2_with fail
      refine n2.mono ?_
      rintro e v ⟨rfl, rfl⟩
      go_wp2_with fail
      go_ret
      exact ⟨(by rw [hz.out]; rfl), rfl⟩
set_option maxRecDepth 100000 in
set_option maxHeartbeats 1000000 in
/-- cmp.Or of two. -/
theorem cor12_any {g : Nat} (a b : Int) (t : TypeId) (w : World) (hr : Blk w g [.int .i64 a, .int .i64 b] t) (c : Nat) : Calls Tryd.prog 34 #[.slice (some ⟨g, 0, none⟩) 2 c] w fun e w' => e = .returned (.int .i64 (if a = 0 then b else a)) ∧ w' = w := by
  have c0 := hr.cell (j := 0) rfl
  have c1 := hr.cell (j := 1) rfl
  clear hr
  obtain ⟨Z, hZ⟩ : ∃ z : Int, z = (if a = 0 then b else a) := ⟨_, rfl⟩
  rw [← hZ]
  by_cases ha : a = 0
  · rw [if_pos ha] at hZ
    subst ha
    by_cases hb : b = 0
    · have hz : Hid (Z = 0) := by rw [hb] at hZ; exact hZ
      subst hb
      clear hZ
      go_enter Tryd.func34, Tryd.ntmps34
      go_wp2_with fail
      go_loopw [8] (fun i wr => ∃ k : Nat, k ≤ 2 ∧ i = .int .i64 k ∧ wr = w) (fun i _ => 2 - (intOf i).toNat)
      case atStart => exact ⟨0, by omega, rfl, rfl⟩
      case round =>
        obtain ⟨k, hk, rfl, rfl⟩ := hrel
        by_cases k0 : k = 0
        · subst k0
          go_wp2_with fail
          go_roundw
          case rel => exact ⟨1, by omega, by go_num, by first | rfl | trivial⟩
          case measure => simp [intOf]
        · by_cases k1 : k = 1
          · subst k1
            go_wp2_with fail
            go_roundw
            case rel => exact ⟨2, by omega, by go_num, by first | rfl | trivial⟩
            case measure => simp [intOf]
          · have k2 : k = 2 := by omega
            subst k2
            go_wp2_with fail
            go_ret
            exact ⟨(by rw [hz.out]; rfl), rfl⟩
    · have hz : Hid (Z = b) := hZ
      have hbt : (b == 0) = false := by simpa using hb
      clear hZ
      go_enter Tryd.func34, Tryd.ntmps34
      go_wp2_with fail
      go_loopw [8] (fun i wr => ∃ k : Nat, k ≤ 1 ∧ i = .int .i64 k ∧ wr = w) (fun i _ => 2 - (intOf i).toNat)
      case atStart => exact ⟨0, by omega, rfl, rfl⟩
      case round =>
        obtain ⟨k, hk, rfl, rfl⟩ := hrel
        by_cases k0 : k = 0
        · subst k0
          go_wp2_with fail
          go_roundw
          case rel => exact ⟨1, by omega, by go_num, by first | rfl | trivial⟩
          case measure => simp [intOf]
        · have k1 : k = 1 := by omega
          subst k1
          go_wp2_with fail
          go_ret
          exact ⟨(by rw [hz.out]; rfl), rfl⟩
  · rw [if_neg ha] at hZ
    have hz : Hid (Z = a) := hZ
    have hat : (a == 0) = false := by simpa using ha
    clear hZ
    go_enter Tryd.func34, Tryd.ntmps34
    go_wp2_with fail
    go_loopw [8] (fun i wr => i = .int .i64 0 ∧ wr = w) (fun i _ => 2 - (intOf i).toNat)
    case atStart => exact ⟨rfl, rfl⟩
    case round =>
      obtain ⟨rfl, rfl⟩ := hrel
      go_wp2_with fail
      go_ret
      exact ⟨(by rw [hz.out]; rfl), rfl⟩
end Go.Proofs.YtgajlgnniidgmaaDoor

namespace Go.Proofs.YtgajlgnniidgmaaDoor
set_option linter.unusedVariables false
set_option linter.unusedSimpArgs false

/-- The sum over all sets of what a set counts, each with its chance. -/
def Ex : List Int → (Nat → Int) → Int
  | [], L => L 0
  | c :: l, L => c * Ex l (fun k => L (2 * k + 1)) + (16 - c) * Ex l (fun k => L (2 * k))
theorem fsum_add (h g : Nat → Int) : ∀ n : Nat, fsum (fun k => h k + g k) n = fsum h n + fsum g n
  | 0 => rfl
  | n + 1 => by rw [fsum, fsum, fsum, fsum_add h g n]; omega
theorem ex_fsum : ∀ (l : List Int) (L : Nat → Int), fsum (fun f => L f * prw f l) (2 ^ l.length) = Ex l L
  | [], L => by rw [List.length_nil, Nat.pow_zero, fsum, fsum, prw, Ex]; omega
  | c :: l, L => by
    rw [List.length_cons, show 2 ^ (l.length + 1) = 2 * 2 ^ l.length by rw [Nat.pow_succ]; omega, fsum_two, Ex, ← ex_fsum l, ← ex_fsum l, ← fsum_mul, ← fsum_mul, ← fsum_add]
    refine fsum_congr fun k _ => ?_
    rw [prw_even, prw_odd, Int.add_comm, Int.mul_left_comm, Int.mul_left_comm (L (2 * k))]
theorem ex_cond : ∀ (l : List Int) (L : Nat → Int) (d : Nat) (c : Int), l[d]? = some c → 16 * Ex l L = c * Ex (l.set d 16) L + (16 - c) * Ex (l.set d 0) L
  | [], L, d, c, h => by simp at h
  | x :: l, L, 0, c, h => by
    have : x = c := by simpa using h
    subst this
    rw [List.set_cons_zero, List.set_cons_zero, Ex, Ex, Ex]
    generalize Ex l (fun k => L (2 * k + 1)) = A
    generalize Ex l (fun k => L (2 * k)) = B
    have e1 : x * (16 * A + (16 - 16) * B) = 16 * (x * A) := by rw [show (16 : Int) - 16 = 0 by decide, Int.zero_mul, Int.add_zero, Int.mul_left_comm]
    have e2 : (16 - x) * (0 * A + (16 - 0) * B) = 16 * ((16 - x) * B) := by rw [Int.zero_mul, Int.zero_add, show (16 : Int) - 0 = 16 by decide, Int.mul_left_comm]
    rw [e1, e2, Int.mul_add]
  | x :: l, L, d + 1, c, h => by
    have h' : l[d]? = some c := by simpa using h
    rw [List.set_cons_succ, List.set_cons_succ, Ex, Ex, Ex]
    have i1 := ex_cond l (fun k => L (2 * k + 1)) d c h'
    have i2 := ex_cond l (fun k => L (2 * k)) d c h'
    generalize Ex l (fun k => L (2 * k + 1)) = A at *
    generalize Ex l (fun k => L (2 * k)) = B at *
    generalize Ex (l.set d 16) (fun k => L (2 * k + 1)) = A1 at *
    generalize Ex (l.set d 16) (fun k => L (2 * k)) = B1 at *
    generalize Ex (l.set d 0) (fun k => L (2 * k + 1)) = A0 at *
    generalize Ex (l.set d 0) (fun k => L (2 * k)) = B0 at *
    rw [Int.mul_add, Int.mul_left_comm, i1, Int.mul_left_comm 16, i2]
    generalize 16 - c = e
    generalize 16 - x = y
    rw [Int.mul_add, Int.mul_add, Int.mul_add, Int.mul_add]
    rw [Int.mul_left_comm x c, Int.mul_left_comm x e, Int.mul_left_comm y c, Int.mul_left_comm y e]
    omega
theorem ex_le : ∀ (l : List Int) {L M : Nat → Int}, (∀ c ∈ l, 0 ≤ c ∧ c ≤ 16) → (∀ f, L f ≤ M f) → Ex l L ≤ Ex l M
  | [], L, M, _, h => h 0
  | c :: l, L, M, hr, h => by
    rw [Ex, Ex]
    obtain ⟨h0, h1⟩ := hr c (List.mem_cons_self ..)
    exact Int.add_le_add (Int.mul_le_mul_of_nonneg_left (ex_le l (fun x hx => hr x (List.mem_cons_of_mem _ hx)) fun f => h _) h0)
      (Int.mul_le_mul_of_nonneg_left (ex_le l (fun x hx => hr x (List.mem_cons_of_mem _ hx)) fun f => h _) (by omega))
theorem bit_two (k i : Nat) : (2 * k).testBit i = (decide (1 ≤ i) && k.testBit (i - 1)) := by
  have := Nat.testBit_two_pow_mul (i := 1) (a := k) (j := i)
  rw [Nat.pow_one] at this
  exact this
theorem bit_two0 (k : Nat) : (2 * k).testBit 0 = false := by rw [bit_two]; rfl
theorem bit_twoS (k i : Nat) : (2 * k).testBit (i + 1) = k.testBit i := by rw [bit_two]; simp
theorem bit_one0 (k : Nat) : (2 * k + 1).testBit 0 = true := by rw [Nat.testBit_zero]; simp
theorem bit_oneS (k i : Nat) : (2 * k + 1).testBit (i + 1) = k.testBit i := by
  rw [Nat.testBit_succ]; congr 1; omega
/-- What counts more the more fail. -/
def UpL (L : Nat → Int) : Prop := ∀ f g : Nat, (∀ i, f.testBit i = true → g.testBit i = true) → L f ≤ L g
theorem UpL.odd {L : Nat → Int} (h : UpL L) : UpL (fun k => L (2 * k + 1)) := fun f g hi => h _ _ fun i hf => by
  cases i with
  | zero => exact bit_one0 g
  | succ i => rw [bit_oneS] at hf ⊢; exact hi i hf
theorem UpL.even {L : Nat → Int} (h : UpL L) : UpL (fun k => L (2 * k)) := fun f g hi => h _ _ fun i hf => by
  cases i with
  | zero => rw [bit_two0] at hf; cases hf
  | succ i => rw [bit_twoS] at hf ⊢; exact hi i hf
theorem ex_up : ∀ (l : List Int) {L : Nat → Int} (d : Nat) (c c' : Int), UpL L → (∀ c ∈ l, 0 ≤ c ∧ c ≤ 16) → l[d]? = some c → c ≤ c' → Ex l L ≤ Ex (l.set d c') L
  | [], L, d, c, c', hU, hr, h, hc => by simp at h
  | x :: l, L, 0, c, c', hU, hr, h, hc => by
    have : x = c := by simpa using h
    subst this
    rw [List.set_cons_zero, Ex, Ex]
    have hle : Ex l (fun k => L (2 * k)) ≤ Ex l (fun k => L (2 * k + 1)) := ex_le l (fun y hy => hr y (List.mem_cons_of_mem _ hy)) fun f => hU _ _ fun i hi => by
      cases i with
      | zero => rw [bit_two0] at hi; cases hi
      | succ i => rw [bit_twoS] at hi; rw [bit_oneS]; exact hi
    generalize Ex l (fun k => L (2 * k + 1)) = A at *
    generalize Ex l (fun k => L (2 * k)) = B at *
    have e : ∀ z : Int, z * A + (16 - z) * B = z * (A - B) + 16 * B := fun z => by rw [Int.sub_mul, Int.mul_sub]; omega
    rw [e, e]
    have := Int.mul_le_mul_of_nonneg_right hc (show 0 ≤ A - B by omega)
    omega
  | x :: l, L, d + 1, c, c', hU, hr, h, hc => by
    have h' : l[d]? = some c := by simpa using h
    obtain ⟨h0, h1⟩ := hr x (List.mem_cons_self ..)
    rw [List.set_cons_succ, Ex, Ex]
    exact Int.add_le_add (Int.mul_le_mul_of_nonneg_left (ex_up l d c c' hU.odd (fun y hy => hr y (List.mem_cons_of_mem _ hy)) h' hc) h0)
      (Int.mul_le_mul_of_nonneg_left (ex_up l d c c' hU.even (fun y hy => hr y (List.mem_cons_of_mem _ hy)) h' hc) (by omega))
theorem ex_supp : ∀ (l : List Int) {L M : Nat → Int}, (∀ f : Nat, (∀ i, l[i]? = some 0 → f.testBit i = false) → L f = M f) → Ex l L = Ex l M
  | [], L, M, h => h 0 fun i hi => by simp at hi
  | c :: l, L, M, h => by
    rw [Ex, Ex]
    have e2 : Ex l (fun k => L (2 * k)) = Ex l (fun k => M (2 * k)) := ex_supp l fun f hf => h _ fun i hi => by
      cases i with
      | zero => exact bit_two0 f
      | succ i => rw [bit_twoS]; exact hf i (by simpa using hi)
    rw [e2]
    by_cases hc : c = 0
    · rw [hc, Int.zero_mul, Int.zero_mul]
    · have e1 : Ex l (fun k => L (2 * k + 1)) = Ex l (fun k => M (2 * k + 1)) := ex_supp l fun f hf => h _ fun i hi => by
        cases i with
        | zero => exact absurd (by simpa using hi) hc
        | succ i => rw [bit_oneS]; exact hf i (by simpa using hi)
      rw [e1]
theorem ex_congr (l : List Int) {L M : Nat → Int} (h : ∀ f, L f = M f) : Ex l L = Ex l M := ex_supp l fun f _ => h f
theorem or_odd (k a : Nat) : (2 * k + 1) ||| 2 ^ (a + 1) = 2 * (k ||| 2 ^ a) + 1 := by
  apply Nat.eq_of_testBit_eq
  intro i
  cases i with
  | zero => rw [Nat.testBit_or, bit_one0, bit_one0]; rfl
  | succ i => rw [Nat.testBit_or, bit_oneS, bit_oneS, Nat.testBit_or, Nat.testBit_two_pow, Nat.testBit_two_pow]; simp
theorem or_even (k a : Nat) : (2 * k) ||| 2 ^ (a + 1) = 2 * (k ||| 2 ^ a) := by
  apply Nat.eq_of_testBit_eq
  intro i
  cases i with
  | zero => rw [Nat.testBit_or, bit_two0, bit_two0, Nat.testBit_two_pow]; simp
  | succ i => rw [Nat.testBit_or, bit_twoS, bit_twoS, Nat.testBit_or, Nat.testBit_two_pow, Nat.testBit_two_pow]; simp
theorem or_bot (k : Nat) : (2 * k) ||| 2 ^ 0 = 2 * k + 1 := by
  apply Nat.eq_of_testBit_eq
  intro i
  cases i with
  | zero => rw [Nat.testBit_or, bit_two0, bit_one0]; rfl
  | succ i => rw [Nat.testBit_or, bit_twoS, bit_oneS, Nat.testBit_two_pow]; simp
theorem ex_set16 : ∀ (l : List Int) {M : Nat → Int} (a : Nat), a < l.length → Ex (l.set a 16) M = Ex (l.set a 0) (fun f => M (f ||| 2 ^ a))
  | [], M, a, h => by simp at h
  | x :: l, M, 0, h => by
    rw [List.set_cons_zero, List.set_cons_zero, Ex, Ex, show (16 : Int) - 16 = 0 by decide, show (16 : Int) - 0 = 16 by decide, Int.zero_mul, Int.zero_mul, Int.add_zero, Int.zero_add]
    exact congrArg (16 * ·) (ex_congr l fun f => by rw [or_bot])
  | x :: l, M, a + 1, h => by
    have h' : a < l.length := by simpa using h
    rw [List.set_cons_succ, List.set_cons_succ, Ex, Ex, ex_set16 l a h', ex_set16 l a h']
    have e1 : Ex (l.set a 0) (fun f => M (2 * (f ||| 2 ^ a) + 1)) = Ex (l.set a 0) (fun k => M (2 * k + 1 ||| 2 ^ (a + 1))) := ex_congr _ fun f => by rw [or_odd]
    have e2 : Ex (l.set a 0) (fun f => M (2 * (f ||| 2 ^ a))) = Ex (l.set a 0) (fun k => M (2 * k ||| 2 ^ (a + 1))) := ex_congr _ fun f => by rw [or_even]
    rw [← e1, ← e2]
/-- A set with two domains exchanged. -/
def xch (a b f : Nat) : Nat := if f.testBit a = f.testBit b then f else f ^^^ (2 ^ a ^^^ 2 ^ b)
theorem xch_bit (a b f i : Nat) : (xch a b f).testBit i = f.testBit (if i = a then b else if i = b then a else i) := by
  unfold xch
  by_cases h : f.testBit a = f.testBit b
  · rw [if_pos h]
    by_cases ha : i = a
    · rw [if_pos ha, ha, h]
    · rw [if_neg ha]
      by_cases hb : i = b
      · rw [if_pos hb, hb, h]
      · rw [if_neg hb]
  · rw [if_neg h, Nat.testBit_xor, Nat.testBit_xor, Nat.testBit_two_pow, Nat.testBit_two_pow]
    have hab : a ≠ b := fun e => h (by rw [e])
    by_cases ha : i = a
    · subst ha
      rw [if_pos rfl, decide_eq_true rfl, decide_eq_false (fun e => hab e.symm)]
      cases h1 : f.testBit i <;> cases h2 : f.testBit b <;> simp_all
    · rw [if_neg ha, decide_eq_false (fun e => ha e.symm)]
      by_cases hb : i = b
      · subst hb
        rw [if_pos rfl, decide_eq_true rfl]
        cases h1 : f.testBit a <;> cases h2 : f.testBit i <;> simp_all
      · rw [if_neg hb, decide_eq_false (fun e => hb e.symm)]
        simp
theorem xch_xch (a b f : Nat) : xch a b (xch a b f) = f := by
  apply Nat.eq_of_testBit_eq
  intro i
  rw [xch_bit, xch_bit]
  congr 1
  by_cases ha : i = a
  · subst ha; rw [if_pos rfl]; by_cases hb : b = i
    · rw [if_pos hb]; exact hb
    · rw [if_neg hb, if_pos rfl]
  · rw [if_neg ha]
    by_cases hb : i = b
    · subst hb; rw [if_pos rfl, if_pos rfl]
    · rw [if_neg hb, if_neg ha, if_neg hb]
theorem ex_xch (l : List Int) (L : Nat → Int) (a b : Nat) (x y : Int) (hab : a ≠ b) (ha : l[a]? = some x) (hb : l[b]? = some y) : Ex ((l.set a y).set b x) (fun f => L (xch a b f)) = Ex l L := by
  have la := (List.getElem?_eq_some_iff.1 ha).1
  have lb := (List.getElem?_eq_some_iff.1 hb).1
  obtain ⟨l', hl'⟩ : ∃ l', l' = (l.set a y).set b x := ⟨_, rfl⟩
  have ha' : l'[a]? = some y := by rw [hl', List.getElem?_set_ne (fun e => hab e.symm), List.getElem?_set_self la]
  have hb' : ∀ s : Int, (l'.set a s)[b]? = some x := fun s => by rw [List.getElem?_set_ne hab, hl', List.getElem?_set_self (by rw [List.length_set]; exact lb)]
  have hb0 : ∀ s : Int, (l.set a s)[b]? = some y := fun s => by rw [List.getElem?_set_ne hab]; exact hb
  have hset : ∀ s t : Int, (l'.set a s).set b t = (l.set a s).set b t := fun s t => by
    rw [hl', List.set_comm _ _ (fun e => hab e.symm), List.set_set, List.set_set]
  obtain ⟨Z, hZ⟩ : ∃ Z, Z = fun s t : Int => (l.set a s).set b t := ⟨_, rfl⟩
  have hZ' : ∀ s t : Int, (l.set a s).set b t = Z s t := fun s t => by rw [hZ]
  have hlen : ∀ s : Int, (l.set a s).length = l.length := fun s => List.length_set ..
  -- both zero
  have z0 : ∀ f : Nat, (∀ i, (Z 0 0)[i]? = some 0 → f.testBit i = false) → f.testBit a = false ∧ f.testBit b = false := fun f hf => by
    refine ⟨hf a ?_, hf b ?_⟩
    · rw [hZ]; show ((l.set a 0).set b 0)[a]? = _; rw [List.getElem?_set_ne (fun e => hab e.symm), List.getElem?_set_self la]
    · rw [hZ]; show ((l.set a 0).set b 0)[b]? = _; rw [List.getElem?_set_self (by rw [hlen]; exact lb)]
  have bZ : ∀ (s : Int) (M : Nat → Int), Ex (Z s 16) M = Ex (Z s 0) (fun f => M (f ||| 2 ^ b)) := fun s M => by
    rw [← hZ', ← hZ']; exact ex_set16 _ b (by rw [hlen]; exact lb)
  have aZ : ∀ (t : Int) (M : Nat → Int), Ex (Z 16 t) M = Ex (Z 0 t) (fun f => M (f ||| 2 ^ a)) := fun t M => by
    rw [← hZ', ← hZ', List.set_comm _ _ hab, List.set_comm _ _ hab]; exact ex_set16 _ a (by rw [List.length_set]; exact la)
  have e00 : Ex (Z 0 0) (fun f => L (xch a b f)) = Ex (Z 0 0) L := ex_supp _ fun f hf => by
    obtain ⟨h1, h2⟩ := z0 f hf
    show L (xch a b f) = L f
    unfold xch; rw [if_pos (by rw [h1, h2])]
  have bo : ∀ (f c i : Nat), (f ||| 2 ^ c).testBit i = (f.testBit i || decide (c = i)) := fun f c i => by rw [Nat.testBit_or, Nat.testBit_two_pow]
  have e11 : Ex (Z 16 16) (fun f => L (xch a b f)) = Ex (Z 16 16) L := by
    rw [aZ, bZ, aZ, bZ]
    refine ex_supp _ fun f hf => ?_
    show L (xch a b ((f ||| 2 ^ b) ||| 2 ^ a)) = L ((f ||| 2 ^ b) ||| 2 ^ a)
    unfold xch
    rw [if_pos (by rw [bo, bo, bo, bo, decide_eq_true rfl, decide_eq_true rfl]; simp)]
  have e10 : Ex (Z 16 0) (fun f => L (xch a b f)) = Ex (Z 0 16) L := by
    rw [aZ, bZ]
    refine ex_supp _ fun f hf => ?_
    obtain ⟨h1, h2⟩ := z0 f hf
    show L (xch a b (f ||| 2 ^ a)) = L (f ||| 2 ^ b)
    congr 1
    apply Nat.eq_of_testBit_eq
    intro i
    rw [xch_bit, bo, bo]
    by_cases hia : i = a
    · subst hia; rw [if_pos rfl, h1, h2, decide_eq_false hab, decide_eq_false (fun e => hab e.symm)]
    · rw [if_neg hia]
      by_cases hib : i = b
      · subst hib; rw [if_pos rfl, h1, decide_eq_true rfl, decide_eq_true rfl]; simp
      · rw [if_neg hib, decide_eq_false (fun e => hia e.symm), decide_eq_false (fun e => hib e.symm)]
  have e01 : Ex (Z 0 16) (fun f => L (xch a b f)) = Ex (Z 16 0) L := by
    rw [aZ, bZ]
    refine ex_supp _ fun f hf => ?_
    obtain ⟨h1, h2⟩ := z0 f hf
    show L (xch a b (f ||| 2 ^ b)) = L (f ||| 2 ^ a)
    congr 1
    apply Nat.eq_of_testBit_eq
    intro i
    rw [xch_bit, bo, bo]
    by_cases hia : i = a
    · subst hia; rw [if_pos rfl, h2, decide_eq_true rfl, decide_eq_true rfl]; simp
    · rw [if_neg hia]
      by_cases hib : i = b
      · subst hib; rw [if_pos rfl, h1, h2, decide_eq_false hab, decide_eq_false (fun e => hab e.symm)]
      · rw [if_neg hib, decide_eq_false (fun e => hib e.symm), decide_eq_false (fun e => hia e.symm)]
  rw [← hl']
  have c1 := ex_cond l' (fun f => L (xch a b f)) a y ha'
  have c2 := ex_cond (l'.set a 16) (fun f => L (xch a b f)) b x (hb' 16)
  have c3 := ex_cond (l'.set a 0) (fun f => L (xch a b f)) b x (hb' 0)
  have d1 := ex_cond l L a x ha
  have d2 := ex_cond (l.set a 16) L b y (hb0 16)
  have d3 := ex_cond (l.set a 0) L b y (hb0 0)
  rw [hset, hset, hZ', hZ', e11, e10] at c2
  rw [hset, hset, hZ', hZ', e01, e00] at c3
  rw [hZ', hZ'] at d2 d3
  generalize Ex l' (fun f => L (xch a b f)) = X1 at *
  generalize Ex (l'.set a 16) (fun f => L (xch a b f)) = X2 at *
  generalize Ex (l'.set a 0) (fun f => L (xch a b f)) = X3 at *
  generalize Ex l L = Y1 at *
  generalize Ex (l.set a 16) L = Y2 at *
  generalize Ex (l.set a 0) L = Y3 at *
  generalize Ex (Z 16 16) L = P at *
  generalize Ex (Z 16 0) L = Q at *
  generalize Ex (Z 0 16) L = R at *
  generalize Ex (Z 0 0) L = S at *
  clear hZ' hset hb' hb0 hlen z0 bZ aZ e00 e11 e10 e01 bo ha' hl' hZ
  have k1 : 16 * (16 * X1) = y * (16 * X2) + (16 - y) * (16 * X3) := by rw [c1, Int.mul_add, Int.mul_left_comm, Int.mul_left_comm 16 (16 - y)]
  have k2 : 16 * (16 * Y1) = x * (16 * Y2) + (16 - x) * (16 * Y3) := by rw [d1, Int.mul_add, Int.mul_left_comm, Int.mul_left_comm 16 (16 - x)]
  rw [c2, c3] at k1
  rw [d2, d3] at k2
  generalize 16 - x = u at *
  generalize 16 - y = v at *
  rw [Int.mul_add, Int.mul_add, Int.mul_left_comm y x, Int.mul_left_comm y u, Int.mul_left_comm v x, Int.mul_left_comm v u] at k1
  rw [Int.mul_add, Int.mul_add] at k2
  omega
end Go.Proofs.YtgajlgnniidgmaaDoor
