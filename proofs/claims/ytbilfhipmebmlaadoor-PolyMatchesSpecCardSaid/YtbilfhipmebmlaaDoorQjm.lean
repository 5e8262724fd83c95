/-
  Contracts of stage 6: Decode. Contracts of stage 6: the errors of Decode; the calls of sanity. Stage 6: sanity, the walk. (Written by tools/genql.py.). Stage 6: contracts with every length a variable, for the walks of the laws.
-/
import Derived.Test.YtbilfhipmebmlaaDoorQi
import Derived.Test.YtbilfhipmebmlaaDoorOpn
namespace Go.Proofs.YtbilfhipmebmlaaDoor
set_option linter.unusedVariables false
set_option linter.unusedSimpArgs false
open Go.RowKit

/-- What Decode ends with, when it has something to search for. -/
def DecEnd (w : World) (xs ys : List UInt8) (n d wrong : Nat) (e : Ending) (w' : World) : Prop :=
  ∃ vp va E, e = .returned (.tuple #[vp, va, .int .i64 E]) ∧ Below w.heap.size w w' ∧
    ((∃ P, Found xs ys n d wrong P ∧ E = 0 ∧ OwnB w' w.heap.size vp P ∧ OwnP w' w.heap.size va (missL P xs ys n)) ∨ (Lost xs ys n d wrong ∧ E = 17 ∧ vp = .slice none 0 0 ∧ va = .slice none 0 0))
theorem ownP_low {w : World} {base B : Nat} {v : Value} {l : List Nat} (h : OwnP w base v l) (hB : B ≤ base) : OwnP w B v l := by
  obtain ⟨h1, h2⟩ := h
  refine ⟨h1, ?_⟩
  rcases h2 with h2 | ⟨g, cap, cur, e1, e2, e3⟩
  · exact .inl h2
  · exact .inr ⟨g, cap, cur, e1, Nat.le_trans hB e2, e3⟩

set_option maxRecDepth 100000 in
set_option maxHeartbeats 4000000 in
theorem decode_ok {B : Nat} (xs ys : List UInt8) (A A' : Option Addr) (c c' n ny d wrong : Nat) (w : World) (h : Rds w B A (xs.map bv)) (h' : Rds w B A' (ys.map bv)) (hB : B ≤ w.heap.size) (hn : n = xs.length) (hny : ny = ys.length) (he : n = ny) (hl : n ≤ 1000) (hd : Dist xs n) (hw : d + 1 + 2 * wrong ≤ n) (ht : PTab 0 w) :
    Calls Tryd.prog 33 #[.slice A n c, .slice A' ny c', .int .i64 d, .int .i64 wrong] w (DecEnd w xs ys n d wrong) := by
  have RT := Lib.hid (right_yes xs A A' c c' n ny w h hB hn (by omega) (by omega) hd he)
  have VN : Hid (∀ W, Below w.heap.size w W → Calls Tryd.prog 73 #[.slice A n c] W fun e w' => ∃ v, e = .returned v ∧ OwnB w' W.heap.size v (van xs n) ∧ Below W.heap.size W w') := fun W hW =>
    vanishing_any xs A c n W (h.below (hW.mono hB)) (Nat.le_trans hB hW.size) hn hl (ht.below hW ht.1)
  have IN : Hid (∀ W, Below w.heap.size w W → Calls Tryd.prog 70 #[.slice A n c, .slice A' ny c'] W fun e w' => ∃ v, e = .returned v ∧ OwnB w' W.heap.size v (lineP xs ys n) ∧ Below W.heap.size W w') := fun W hW =>
    interpolated_any xs ys A A' c c' n ny W (h.below (hW.mono hB)) (h'.below (hW.mono hB)) (Nat.le_trans hB hW.size) hn hny (by omega) hl hd (ht.below hW ht.1)
  obtain ⟨most, hmost⟩ : ∃ m, m = n - wrong := ⟨_, rfl⟩
  have hm1 : 1 ≤ most := by omega
  have hm2 : most ≤ n := by omega
  have hvl : (van xs n).length = n + 1 := by
    have h1 := van_dg xs n
    cases n with
    | zero => rfl
    | succ n => rw [van, dg_trim] at h1; rw [van, trim_len]; exact h1
  have hvt : trim (van xs n) = van xs n := by
    unfold trim
    rw [van_dg, ← hvl, List.take_length]
  have hI : SrI xs ys n most (van xs n) [] (lineP xs ys n) [1] := SrI.start hvt (lineP_trim xs ys n) hvl (lineP_len xs ys hd) hm2 (fun i hi => van_ev xs n i hi) (fun i hi => (lineP_spec hd).2 i hi)
  have CA : Hid (∀ W A1 A2 c1 c2, Below w.heap.size w W → OwnB W w.heap.size (.slice A1 (van xs n).length c1) (van xs n) → OwnB W w.heap.size (.slice A2 (lineP xs ys n).length c2) (lineP xs ys n) → Calls Tryd.prog 72 #[.slice A1 (van xs n).length c1, .slice A2 (lineP xs ys n).length c2, .int .i64 most] W (CandEnd W xs ys n most)) := fun W A1 A2 c1 c2 hW h1 h2 => by
    obtain ⟨a1, k1, e1, p1, p2, p3, p4⟩ := own_form h1
    obtain ⟨a2, k2, e2, q1, q2, q3, q4⟩ := own_form h2
    cases e1
    cases e2
    exact candidate_any (B := W.heap.size) xs ys (van xs n) (lineP xs ys n) n most _ _ _ _ _ _ W p4 q4 (Nat.le_refl _) rfl rfl p1 p2 p3 q1 q2 q3 hI hl hm1 hm2 (ht.below hW ht.1)
  have MS : Hid (∀ W P A1 c1, Below w.heap.size w W → OwnB W w.heap.size (.slice A1 P.length c1) P → P.length ≤ 100000 → Calls Tryd.prog 74 #[.slice A1 P.length c1, .slice A n c, .slice A' ny c'] W fun e w' => ∃ v, e = .returned v ∧ OwnP w' W.heap.size v (missL P xs ys n) ∧ Below W.heap.size W w') := fun W P A1 c1 hW hO hlp => by
    exact missed_any (B := W.heap.size) P xs ys A1 A A' c1 c c' P.length n ny W (Rds.own hO) ((h.below (hW.mono hB)).more (Nat.le_trans hB hW.size)) ((h'.below (hW.mono hB)).more (Nat.le_trans hB hW.size)) (Nat.le_refl _) rfl hn hny (by omega) hlp (by omega) (ht.below hW ht.1)
  have hd' := Lib.hid hd
  have hmw : Hid (most + wrong = n) := by show _ = _; omega
  have hw' := Lib.hid hw
  have hkn : (n : Int) - (wrong : Int) = (most : Int) := by omega
  have hknw : IntKind.i64.wrap ((n : Int) - (wrong : Int)) = (most : Int) := by rw [IntKind.wrap_i64]; omega
  obtain ⟨p, hp⟩ : ∃ p, n = p + 1 := ⟨n - 1, by omega⟩
  have hpn : (n : Int) - 1 = (p : Int) := by omega
  have hpnw : IntKind.i64.wrap ((n : Int) - 1) = (p : Int) := by rw [IntKind.wrap_i64]; omega
  obtain ⟨s, hs⟩ : ∃ s, s = p - d := ⟨_, rfl⟩
  have hsn : (p : Int) - (d : Int) = (s : Int) := by omega
  have hsnw : IntKind.i64.wrap ((p : Int) - (d : Int)) = (s : Int) := by rw [IntKind.wrap_i64]; omega
  obtain ⟨f, hf⟩ : ∃ f, f = s / 2 := ⟨_, rfl⟩
  have hfd : Int.tdiv (s : Int) 2 = (f : Int) := by rw [Int.tdiv_eq_ediv_of_nonneg (by omega)]; omega
  have t1 : ¬ (d : Int) < 0 := by omega
  have t2 : ¬ (wrong : Int) < 0 := by omega
  have t3 : ¬ (d : Int) > (p : Int) := by omega
  have t4 : ¬ (wrong : Int) > (f : Int) := by omega
  have hfw : IntKind.i64.wrap (f : Int) = (f : Int) := by rw [IntKind.wrap_i64]; omega
  clear h h' hB hn hny he hd ht hmost hI hvl hvt hp hs hf hw
  go_enter Tryd.func33, Tryd.ntmps33
  go_wp2_with fail
  refine RT.out.mono ?_
  rintro e w2 ⟨rfl, hb2⟩
  have hb2' := Lib.hid hb2
  have VN2 := Lib.hid (VN.out w2 hb2)
  clear hb2 VN RT
  go_wp2_with fail
  refine VN2.out.mono ?_
  rintro e w3 ⟨v3, rfl, ho3, hb3⟩
  have hB3 := Lib.hid (hb2'.out.trans (hb3.mono hb2'.out.size))
  have ho3' := Lib.hid (ownB_low ho3 hb2'.out.size)
  obtain ⟨A3, c3, rfl, _, _, _, _⟩ := own_form ho3
  have IN3 := Lib.hid (IN.out w3 hB3.out)
  clear ho3 hb3 VN2 IN
  obtain ⟨V, hV⟩ : ∃ V, V = van xs n := ⟨_, rfl⟩
  rw [← hV] at CA ho3' ⊢
  obtain ⟨nv, hnv⟩ : ∃ nv, nv = V.length := ⟨_, rfl⟩
  rw [← hnv] at CA ho3' ⊢
  clear hV hnv
  go_wp2_with fail
  refine IN3.out.mono ?_
  rintro e w4 ⟨v4, rfl, ho4, hb4⟩
  have hB4 := Lib.hid (hB3.out.trans (hb4.mono hB3.out.size))
  have ho34 := ownB_kp ho3'.out hb4
  have ho4' := Lib.hid (ownB_low ho4 hB3.out.size)
  obtain ⟨A4, c4, rfl, _, _, _, _⟩ := own_form ho4
  have CA4 := Lib.hid (CA.out w4 A3 A4 c3 c4 hB4.out ho34 ho4'.out)
  clear ho4 hb4 IN3 CA ho34
  obtain ⟨L, hL⟩ : ∃ L, L = lineP xs ys n := ⟨_, rfl⟩
  rw [← hL] at CA4 ho4' ⊢
  obtain ⟨nl, hnl⟩ : ∃ nl, nl = L.length := ⟨_, rfl⟩
  rw [← hnl] at CA4 ho4' ⊢
  clear hL hnl
  go_wp2_with fail
  refine CA4.out.mono ?_
  rintro e w5 ⟨v5, R, T, rfl, ho5, hb5, c1, c2, c3', c4', c5'⟩
  have hB5 := Lib.hid (hB4.out.trans (hb5.mono hB4.out.size))
  have ho5' := Lib.hid (ownB_low ho5 hB4.out.size)
  have hqt := Lib.hid (trim_dq R T)
  have hcr : Hid (∀ f, dg f ≤ d + 1 → (missL f xs ys n).length ≤ wrong → dq R T = trim f) := fun f h1 h2 =>
    cand_right hd'.out hmw.out c1 c2 (by have := hmw.out; omega) c4' h1 hw'.out h2
  obtain ⟨P, hP⟩ : ∃ P, P = dq R T := ⟨_, rfl⟩
  rw [← hP] at ho5 ho5' hqt hcr c5' 
  obtain ⟨A5, c5, rfl, _, _, _, hr5⟩ := own_form ho5
  have MS5 := Lib.hid (MS.out w5 P A5 c5 hB5.out ho5'.out c5')
  have hr5' := Lib.hid hr5
  clear ho5 hb5 c1 c2 c3' c4' hP CA4 MS hr5
  obtain ⟨np, hnp⟩ : ∃ np, np = P.length := ⟨_, rfl⟩
  have hnp' := Lib.hid hnp
  rw [← hnp] at MS5 c5' ho5' ⊢
  clear hnp
  go_wp2_with fail
  refine MS5.out.mono ?_
  rintro e w6 ⟨v6, rfl, ho6, hb6⟩
  have hB6 := Lib.hid (hB5.out.trans (hb6.mono hB5.out.size))
  have hoP := Lib.hid (ownB_kp ho5'.out hb6)
  have ho6' := Lib.hid (ownP_low ho6 hB5.out.size)
  obtain ⟨A6, c6, rfl, _, _, _, _⟩ := own_form ho6
  have DG := Lib.hid (degree_any P A5 c5 w6 (hr5'.out.below hb6) (by rw [← hnp'.out]; omega))
  rw [← hnp'.out] at DG
  clear ho6 hb6 MS5 hr5'
  obtain ⟨z, hz⟩ : ∃ z, z = (dg P : Int) - 1 := ⟨_, rfl⟩
  rw [← hz] at DG
  obtain ⟨nm, hnm⟩ : ∃ nm, nm = (missL P xs ys n).length := ⟨_, rfl⟩
  rw [← hnm] at ho6' ⊢
  have hz' := Lib.hid hz
  have hnm' := Lib.hid hnm
  clear hz hnm
  have LOST : Hid (¬ (dg P ≤ d + 1 ∧ (missL P xs ys n).length ≤ wrong) → Lost xs ys n d wrong) := fun hno f h1 => by
    rcases Nat.lt_or_ge wrong (missL f xs ys n).length with h2 | h2
    · exact h2
    · exfalso
      have e := hcr.out f h1 h2
      apply hno
      rw [e, dg_trim, missL_congr (co_trim f)]
      exact ⟨h1, h2⟩
  clear hcr
  go_wp2_with fail
  refine DG.out.mono ?_
  rintro e w7 ⟨rfl, rfl⟩
  by_cases h1 : dg P ≤ d + 1
  · have u1 : ¬ z > (d : Int) := by have := hz'.out; omega
    by_cases h2 : nm ≤ wrong
    · have u2 : ¬ (nm : Int) > (wrong : Int) := by omega
      have hF : Hid (Found xs ys n d wrong P) := ⟨h1, hqt.out, by rw [← hnm'.out]; exact h2⟩
      clear h1 h2 LOST
      go_wp2_with fail
      go_ret3
      exact ⟨_, _, 0, by first | rfl | (go_simp; done) | (go_simp; rfl), hB6.out, .inl ⟨P, hF.out, rfl, hoP.out, by have := ho6'.out; exact this⟩⟩
    · have u2 : (nm : Int) > (wrong : Int) := by omega
      have hL := Lib.hid (LOST.out (fun hh => h2 (by rw [hnm'.out]; exact hh.2)))
      clear h1 h2 LOST
      go_wp2_with fail
      go_ret3
      exact ⟨_, _, 17, by first | rfl | (go_simp; done) | (go_simp; rfl), hB6.out, .inr ⟨hL.out, rfl, rfl, rfl⟩⟩
  · have u1 : z > (d : Int) := by have := hz'.out; omega
    have hL := Lib.hid (LOST.out (fun hh => h1 hh.1))
    clear h1 LOST
    go_wp2_with fail
    go_ret3
    exact ⟨_, _, 17, by first | rfl | (go_simp; done) | (go_simp; rfl), hB6.out, .inr ⟨hL.out, rfl, rfl, rfl⟩⟩
end Go.Proofs.YtbilfhipmebmlaaDoor

namespace Go.Proofs.YtbilfhipmebmlaaDoor
set_option linter.unusedVariables false
set_option linter.unusedSimpArgs false
open Go.RowKit

set_option maxRecDepth 100000 in
set_option maxHeartbeats 2000000 in
theorem decode_no {B : Nat} (xs : List UInt8) (A A' : Option Addr) (c c' n ny : Nat) (d wr : Int) (w : World) (h : Rds w B A (xs.map bv)) (hB : B ≤ w.heap.size) (hn : n = xs.length) (hl : n ≤ 100000) (hl' : ny ≤ 100000) (hd : ¬ (Dist xs n ∧ n = ny)) :
    Calls Tryd.prog 33 #[.slice A n c, .slice A' ny c', .int .i64 d, .int .i64 wr] w fun e w' => e = .returned (.tuple #[.slice none 0 0, .slice none 0 0, .int .i64 1]) ∧ Below w.heap.size w w' := by
  have RT := Lib.hid (right_no xs A A' c c' n ny w h hB hn hl hl' hd)
  clear h hn hd
  go_enter Tryd.func33, Tryd.ntmps33
  go_wp2_with fail
  refine RT.out.mono ?_
  rintro e w2 ⟨rfl, hb2⟩
  have hb2' := Lib.hid hb2
  clear hb2
  go_wp2_with fail
  go_ret3
  exact ⟨rfl, hb2'.out⟩

set_option maxRecDepth 100000 in
set_option maxHeartbeats 2000000 in
theorem decode_range {B : Nat} (xs : List UInt8) (A A' : Option Addr) (c c' n ny : Nat) (d wr : Int) (w : World) (h : Rds w B A (xs.map bv)) (hB : B ≤ w.heap.size) (hn : n = xs.length) (hl : n ≤ 100000) (hd : Dist xs n) (he : n = ny) (hr : d < 0 ∨ wr < 0 ∨ (n : Int) ≤ d ∨ (n : Int) < d + 1 + 2 * wr) :
    Calls Tryd.prog 33 #[.slice A n c, .slice A' ny c', .int .i64 d, .int .i64 wr] w fun e w' => e = .returned (.tuple #[.slice none 0 0, .slice none 0 0, .int .i64 3]) ∧ Below w.heap.size w w' := by
  have RT := Lib.hid (right_yes xs A A' c c' n ny w h hB hn hl (by omega) hd he)
  clear h hn hd he
  obtain ⟨p, hp⟩ : ∃ p, p = (n : Int) - 1 := ⟨_, rfl⟩
  have hpn : (n : Int) - 1 = p := hp.symm
  have hpw : IntKind.i64.wrap ((n : Int) - 1) = p := by rw [IntKind.wrap_i64]; omega
  by_cases h0 : d < 0
  · clear hr hp hpn
    go_enter Tryd.func33, Tryd.ntmps33
    go_wp2_with fail
    refine RT.out.mono ?_
    rintro e w2 ⟨rfl, hb2⟩
    have hb2' := Lib.hid hb2
    clear hb2
    go_wp2_with fail
    go_ret3
    exact ⟨rfl, hb2'.out⟩
  by_cases h1 : wr < 0
  · clear hr hp hpn
    go_enter Tryd.func33, Tryd.ntmps33
    go_wp2_with fail
    refine RT.out.mono ?_
    rintro e w2 ⟨rfl, hb2⟩
    have hb2' := Lib.hid hb2
    clear hb2
    go_wp2_with fail
    go_ret3
    exact ⟨rfl, hb2'.out⟩
  by_cases h2 : d > p
  · clear hr hp hpn
    go_enter Tryd.func33, Tryd.ntmps33
    go_wp2_with fail
    refine RT.out.mono ?_
    rintro e w2 ⟨rfl, hb2⟩
    have hb2' := Lib.hid hb2
    clear hb2
    go_wp2_with fail
    go_ret3
    exact ⟨rfl, hb2'.out⟩
  obtain ⟨s, hs⟩ : ∃ s : Nat, p - d = s := ⟨(p - d).toNat, by omega⟩
  have hsw : IntKind.i64.wrap (p - d) = (s : Int) := by rw [IntKind.wrap_i64]; omega
  obtain ⟨f, hf⟩ : ∃ f, f = s / 2 := ⟨_, rfl⟩
  have hfd : Int.tdiv (s : Int) 2 = (f : Int) := by rw [hf, Int.tdiv_eq_ediv_of_nonneg (by omega)]; omega
  have hfw : IntKind.i64.wrap (f : Int) = (f : Int) := by rw [IntKind.wrap_i64]; omega
  have t4 : wr > (f : Int) := by omega
  clear hr hp hpn hf hs
  go_enter Tryd.func33, Tryd.ntmps33
  go_wp2_with fail
  refine RT.out.mono ?_
  rintro e w2 ⟨rfl, hb2⟩
  have hb2' := Lib.hid hb2
  clear hb2
  go_wp2_with fail
  go_ret3
  exact ⟨rfl, hb2'.out⟩

/-- One literal, two literals. -/
def W1l (w : World) (a : List UInt8) : World := w.alloc (.cells (a.map bv).toArray 5)
def W2l (w : World) (a b : List UInt8) : World := (w.alloc (.cells (a.map bv).toArray 5)).alloc (.cells (b.map bv).toArray 5)
theorem rds_all {W : World} {g : Nat} {a : List UInt8} (h : Blk W g (a.map bv) 5) : Rds W W.heap.size (some ⟨g, 0, none⟩) (a.map bv) := by
  have := h.rds 0 a.length
  rw [List.drop_zero, List.take_of_length_le (by rw [List.length_map]; exact Nat.le_refl _)] at this
  exact this
theorem lit1 (w : World) (a : List UInt8) : Rds (W1l w a) (W1l w a).heap.size (some ⟨w.heap.size, 0, none⟩) (a.map bv) ∧ Below w.heap.size w (W1l w a) :=
  ⟨rds_all (Blk.new w _ _), (Below.refl _ _).alloc (Nat.le_refl _) _⟩
theorem lit2 (w : World) (a b : List UInt8) : Rds (W2l w a b) (W2l w a b).heap.size (some ⟨w.heap.size, 0, none⟩) (a.map bv) ∧ Rds (W2l w a b) (W2l w a b).heap.size (some ⟨w.heap.size + 1, 0, none⟩) (b.map bv) ∧ Below w.heap.size w (W2l w a b) := by
  refine ⟨rds_all ((Blk.new w _ _).alloc _), rds_all ?_, ((Below.refl _ _).alloc (Nat.le_refl _) _).alloc (by simp) _⟩
  have := Blk.new (w.alloc (.cells (a.map bv).toArray 5)) (b.map bv) 5
  rw [World.size_alloc] at this
  exact this
theorem own_lit {w : World} {base : Nat} {v : Value} {l m : List UInt8} (h : OwnB w base v l) (e : l = m) : ∃ A c, v = .slice A m.length c ∧ Rds w w.heap.size A (m.map bv) := by
  subst e
  obtain ⟨A, c, e, _, _, _, hr⟩ := own_form h
  exact ⟨A, c, e, hr⟩
theorem dist012 : Dist [0, 1, 2] 3 := dist_nodup (l := [0, 1, 2]) (by decide)
theorem dist6 : Dist [0, 1, 2, 3, 4, 5] 6 := dist_nodup (l := [0, 1, 2, 3, 4, 5]) (by decide)

theorem pn1 (w : World) (g1 g2 : Nat) (h1 : g1 = w.heap.size) (h2 : g2 = w.heap.size + 1) (ht : PTab 0 w) : Calls Tryd.prog 25 #[.slice (some ⟨g1, 0, none⟩) 2 2, .slice (some ⟨g2, 0, none⟩) 2 2] (W2l w [1, 1] [1, 1]) fun e w' => ∃ A c, e = .returned (.tuple #[.slice A 3 c, .int .i64 0]) ∧ Rds w' w'.heap.size A (([1, 0, 1] : List UInt8).map bv) ∧ Below w.heap.size w w' := by
  subst h1 h2
  obtain ⟨r1, r2, hb⟩ := lit2 w [1, 1] [1, 1]
  refine (mul6_any [1, 1] [1, 1] _ _ 2 2 _ r1 r2 (Nat.le_refl _) (by decide) (by decide) (ht.below hb ht.1)).mono ?_
  rintro e w' ⟨v, rfl, ho, hb'⟩
  obtain ⟨A, c, rfl, hr⟩ := own_lit (m := [1, 0, 1]) ho (by decide +kernel)
  exact ⟨A, c, rfl, hr, hb.trans (hb'.mono hb.size)⟩
theorem pn2 (w : World) (g1 g2 : Nat) (h1 : g1 = w.heap.size) (h2 : g2 = w.heap.size + 1) (ht : PTab 0 w) : Calls Tryd.prog 26 #[.slice (some ⟨g1, 0, none⟩) 3 3, .slice (some ⟨g2, 0, none⟩) 2 2] (W2l w [1, 0, 1] [1, 1]) fun e w' => ∃ A c A' c', e = .returned (.tuple #[.slice A 2 c, .slice A' 0 c', .int .i64 0]) ∧ Rds w' w'.heap.size A (([1, 1] : List UInt8).map bv) ∧ Below w.heap.size w w' := by
  subst h1 h2
  obtain ⟨r1, r2, hb⟩ := lit2 w [1, 0, 1] [1, 1]
  refine (divmod_ok [1, 0, 1] [1, 1] _ _ 3 2 _ r1 r2 (Nat.le_refl _) (by decide) (by decide) (by decide) (by decide) (fun h => by cases h) (by decide) (by decide) (ht.below hb ht.1)).mono ?_
  rintro e w' ⟨vq, vr, rfl, hq, hr, hb'⟩
  obtain ⟨A, c, rfl, hr1⟩ := own_lit (m := [1, 1]) hq (by decide +kernel)
  obtain ⟨A', c', rfl, _⟩ := own_lit (m := []) hr (by decide +kernel)
  exact ⟨A, c, A', c', rfl, hr1, hb.trans (hb'.mono hb.size)⟩
theorem pn3 {B : Nat} (w : World) (g1 gp : Nat) (h1 : g1 = w.heap.size) (hp : Rds w B (some ⟨gp, 0, none⟩) (([1, 2, 3] : List UInt8).map bv)) : Calls Tryd.prog 26 #[.slice (some ⟨gp, 0, none⟩) 3 3, .slice (some ⟨g1, 0, none⟩) 2 2] (W1l w [0, 0]) fun e w' => e = .returned (.tuple #[.slice none 0 0, .slice none 0 0, .int .i64 1]) ∧ Below w.heap.size w w' := by
  subst h1
  obtain ⟨r1, hb⟩ := lit1 w [0, 0]
  refine (divmod_zero [0, 0] 3 3 2 _ _ _ r1 (by decide) (by decide) (by decide)).mono ?_
  rintro e w' ⟨rfl, rfl⟩
  exact ⟨rfl, hb⟩
theorem pn4 (w : World) (g1 g2 : Nat) (h1 : g1 = w.heap.size) (h2 : g2 = w.heap.size + 1) (ht : PTab 0 w) : Calls Tryd.prog 29 #[.slice (some ⟨g1, 0, none⟩) 3 3, .slice (some ⟨g2, 0, none⟩) 3 3] (W2l w [0, 1, 2] [1, 0, 9]) fun e w' => ∃ A c, e = .returned (.tuple #[.slice A 3 c, .int .i64 0]) ∧ Rds w' w'.heap.size A (([1, 2, 3] : List UInt8).map bv) ∧ Below w.heap.size w w' := by
  subst h1 h2
  obtain ⟨r1, r2, hb⟩ := lit2 w [0, 1, 2] [1, 0, 9]
  refine (interpolate_ok [0, 1, 2] [1, 0, 9] _ _ 3 3 3 3 _ r1 r2 (Nat.le_refl _) rfl rfl rfl (by decide) dist012 (ht.below hb ht.1)).mono ?_
  rintro e w' ⟨v, rfl, ho, hb'⟩
  obtain ⟨A, c, rfl, hr⟩ := own_lit (m := [1, 2, 3]) ho (by decide +kernel)
  exact ⟨A, c, rfl, hr, hb.trans (hb'.mono hb.size)⟩
theorem pn5 (w : World) (g1 g2 : Nat) (h1 : g1 = w.heap.size) (h2 : g2 = w.heap.size + 1) (ht : PTab 0 w) : Calls Tryd.prog 31 #[.slice (some ⟨g1, 0, none⟩) 3 3, .slice (some ⟨g2, 0, none⟩) 3 3, .int .i64 1] (W2l w [0, 1, 2] [1, 0, 9]) fun e w' => e = .returned (.tuple #[.slice none 0 0, .int .i64 8]) ∧ Below w.heap.size w w' := by
  subst h1 h2
  obtain ⟨r1, r2, hb⟩ := lit2 w [0, 1, 2] [1, 0, 9]
  refine (through_ok (m := 1) [0, 1, 2] [1, 0, 9] _ _ 3 3 3 3 _ r1 r2 (Nat.le_refl _) rfl rfl rfl (by decide) dist012 (by decide) (ht.below hb ht.1)).mono ?_
  rintro e w' ⟨v, E, rfl, hE, hb'⟩
  rcases hE with ⟨_, rfl, rfl⟩ | ⟨h, _⟩
  · exact ⟨rfl, hb.trans (hb'.mono hb.size)⟩
  · exact absurd h (by decide +kernel)
theorem pn6 (w : World) (g1 g2 : Nat) (h1 : g1 = w.heap.size) (h2 : g2 = w.heap.size + 1) (ht : PTab 0 w) : Calls Tryd.prog 31 #[.slice (some ⟨g1, 0, none⟩) 3 3, .slice (some ⟨g2, 0, none⟩) 3 3, .int .i64 2] (W2l w [0, 1, 2] [1, 0, 9]) fun e w' => ∃ A c, e = .returned (.tuple #[.slice A 3 c, .int .i64 0]) ∧ Rds w' w'.heap.size A (([1, 2, 3] : List UInt8).map bv) ∧ Below w.heap.size w w' := by
  subst h1 h2
  obtain ⟨r1, r2, hb⟩ := lit2 w [0, 1, 2] [1, 0, 9]
  refine (through_ok (m := 2) [0, 1, 2] [1, 0, 9] _ _ 3 3 3 3 _ r1 r2 (Nat.le_refl _) rfl rfl rfl (by decide) dist012 (by decide) (ht.below hb ht.1)).mono ?_
  rintro e w' ⟨v, E, rfl, hE, hb'⟩
  rcases hE with ⟨h, _⟩ | ⟨_, rfl, ho⟩
  · exact absurd h (by decide +kernel)
  · obtain ⟨A, c, rfl, hr⟩ := own_lit (m := [1, 2, 3]) ho (by decide +kernel)
    exact ⟨A, c, rfl, hr, hb.trans (hb'.mono hb.size)⟩
theorem found6 : Found [0, 1, 2, 3, 4, 5] [1, 0, 7, 8, 57, 56] 6 2 1 [1, 2, 3] := ⟨by decide, by decide, by decide +kernel⟩
theorem pn7 (w : World) (g1 g2 : Nat) (h1 : g1 = w.heap.size) (h2 : g2 = w.heap.size + 1) (ht : PTab 0 w) : Calls Tryd.prog 33 #[.slice (some ⟨g1, 0, none⟩) 6 6, .slice (some ⟨g2, 0, none⟩) 6 6, .int .i64 2, .int .i64 1] (W2l w [0, 1, 2, 3, 4, 5] [1, 0, 7, 8, 57, 56]) fun e w' => ∃ A c A' c', e = .returned (.tuple #[.slice A 3 c, .slice A' 1 c', .int .i64 0]) ∧ Rds w' w'.heap.size A (([1, 2, 3] : List UInt8).map bv) ∧ Rds w' w'.heap.size A' (([2] : List Nat).map pv) ∧ Below w.heap.size w w' := by
  subst h1 h2
  obtain ⟨r1, r2, hb⟩ := lit2 w [0, 1, 2, 3, 4, 5] [1, 0, 7, 8, 57, 56]
  refine (decode_ok (d := 2) (wrong := 1) [0, 1, 2, 3, 4, 5] [1, 0, 7, 8, 57, 56] _ _ 6 6 6 6 _ r1 r2 (Nat.le_refl _) rfl rfl rfl (by decide) dist6 (by decide) (ht.below hb ht.1)).mono ?_
  rintro e w' ⟨vp, va, E, rfl, hb', hE⟩
  rcases hE with ⟨P, hF, rfl, ho, ha⟩ | ⟨h, _⟩
  · have hP := hF.one found6 dist6 (by decide)
    subst hP
    obtain ⟨A, c, rfl, hr⟩ := own_lit (m := [1, 2, 3]) ho rfl
    have hm : missL [1, 2, 3] [0, 1, 2, 3, 4, 5] [1, 0, 7, 8, 57, 56] 6 = [2] := by decide +kernel
    rw [hm] at ha
    obtain ⟨A', c', rfl, _, _, _, hr'⟩ := own_form ha
    exact ⟨A, c, A', c', rfl, hr, hr', hb.trans (hb'.mono hb.size)⟩
  · exact (found6.not h).elim
theorem pn8 (w : World) (g1 g2 : Nat) (h1 : g1 = w.heap.size) (h2 : g2 = w.heap.size + 1) : Calls Tryd.prog 33 #[.slice (some ⟨g1, 0, none⟩) 3 3, .slice (some ⟨g2, 0, none⟩) 3 3, .int .i64 1, .int .i64 1] (W2l w [0, 1, 2] [1, 0, 9]) fun e w' => e = .returned (.tuple #[.slice none 0 0, .slice none 0 0, .int .i64 3]) ∧ Below w.heap.size w w' := by
  subst h1 h2
  obtain ⟨r1, r2, hb⟩ := lit2 w [0, 1, 2] [1, 0, 9]
  refine (decode_range [0, 1, 2] _ _ 3 3 3 3 1 1 _ r1 (Nat.le_refl _) rfl (by decide) dist012 rfl (by decide)).mono ?_
  rintro e w' ⟨rfl, hb'⟩
  exact ⟨rfl, hb.trans (hb'.mono hb.size)⟩
theorem pnS {B : Nat} (w : World) (a b : List UInt8) (A : Option Addr) (n m c g : Nat) (hn : n = a.length) (hm : m = b.length) (hg : g = w.heap.size) (hl : n ≤ 1000) (h : Rds w B A (a.map bv)) (hB : B ≤ w.heap.size) (hs : sameB a b = true) : Calls Tryd.prog 20 #[.slice A n c, .slice (some ⟨g, 0, none⟩) m m] (W1l w b) fun e w' => e = .returned (.bool true) ∧ Below w.heap.size w w' := by
  subst hn hm hg
  obtain ⟨r1, hb⟩ := lit1 w b
  refine (refSame6_any a b A _ c b.length _ (h.below (hb.mono hB)) r1 (by omega)).mono ?_
  rintro e w' ⟨rfl, k, rfl⟩
  exact ⟨by rw [hs], below_dN hb k⟩
end Go.Proofs.YtbilfhipmebmlaaDoor

namespace Go.Proofs.YtbilfhipmebmlaaDoor
set_option linter.unusedVariables false
set_option linter.unusedSimpArgs false
open Go.RowKit
theorem pnSame {B B' : Nat} (w : World) (a b : List UInt8) (A A' : Option Addr) (n m c c' : Nat) (hn : n = a.length) (hm : m = b.length) (hl : n ≤ 1000) (h : Rds w B A (a.map bv)) (h' : Rds w B' A' (b.map bv)) (hs : sameB a b = true) : Calls Tryd.prog 20 #[.slice A n c, .slice A' m c'] w fun e w' => e = .returned (.bool true) ∧ Below w.heap.size w w' := by
  subst hn hm
  refine (refSame6_any a b A A' c c' w h h' (by omega)).mono ?_
  rintro e w' ⟨rfl, k, rfl⟩
  exact ⟨by rw [hs], below_dN (Below.refl _ _) k⟩
theorem pnI {B : Nat} (w : World) (A : Option Addr) (c g : Nat) (hg : g = w.heap.size) (h : Rds w B A (([2] : List Nat).map pv)) (hB : B ≤ w.heap.size) : Calls Tryd.prog 35 #[.slice A 1 c, .slice (some ⟨g, 0, none⟩) 1 1] (w.alloc (.cells #[.int .i64 2] 3)) fun e w' => e = .returned (.bool true) ∧ Below w.heap.size w w' := by
  subst hg
  have hb : Below w.heap.size w (w.alloc (.cells #[.int .i64 2] 3)) := (Below.refl _ _).alloc (Nat.le_refl _) _
  have r1 : Rds (w.alloc (.cells #[.int .i64 2] 3)) (w.alloc (.cells #[.int .i64 2] 3)).heap.size (some ⟨w.heap.size, 0, none⟩) (([2] : List Nat).map pv) := (Blk.new w [.int .i64 2] 3).rds 0 1
  refine (refSameInts6_any [2] [2] A _ c 1 _ (h.below (hb.mono hB)) r1 (by decide)).mono ?_
  rintro e w' ⟨rfl, k, rfl⟩
  exact ⟨rfl, below_dN hb k⟩
theorem pnD1 (w : World) (g : Nat) (hg : g = w.heap.size) : Calls Tryd.prog 18 #[.slice (some ⟨g, 0, none⟩) 3 3] (W1l w [5, 0, 0]) fun e w' => e = .returned (.int .i64 0) ∧ Below w.heap.size w w' := by
  subst hg
  obtain ⟨r1, hb⟩ := lit1 w [5, 0, 0]
  refine (degree_any [5, 0, 0] _ 3 _ r1 (by decide)).mono ?_
  rintro e w' ⟨rfl, rfl⟩
  exact ⟨rfl, hb⟩
theorem pnD2 (w : World) (g : Nat) (hg : g = w.heap.size) : Calls Tryd.prog 18 #[.slice (some ⟨g, 0, none⟩) 2 2] (W1l w [0, 0]) fun e w' => e = .returned (.int .i64 (-1)) ∧ Below w.heap.size w w' := by
  subst hg
  obtain ⟨r1, hb⟩ := lit1 w [0, 0]
  refine (degree_any [0, 0] _ 2 _ r1 (by decide)).mono ?_
  rintro e w' ⟨rfl, rfl⟩
  exact ⟨rfl, hb⟩
theorem pnT (w : World) (g : Nat) (hg : g = w.heap.size) : Calls Tryd.prog 21 #[.slice (some ⟨g, 0, none⟩) 3 3] (W1l w [5, 0, 0]) fun e w' => ∃ A c, e = .returned (.slice A 1 c) ∧ Rds w' w'.heap.size A (([5] : List UInt8).map bv) ∧ Below w.heap.size w w' := by
  subst hg
  obtain ⟨r1, hb⟩ := lit1 w [5, 0, 0]
  refine (trim6_any [5, 0, 0] (.slice (some ⟨w.heap.size, 0, none⟩) 3 3) _ ⟨_, 3, rfl, by decide, by decide, (fun h => by cases h), r1⟩ (Nat.le_refl _) (by decide)).mono ?_
  rintro e w' ⟨v, rfl, ho, hb'⟩
  obtain ⟨A, c, rfl, hr⟩ := own_lit (m := [5]) ho (by decide)
  exact ⟨A, c, rfl, hr, hb.trans (hb'.mono hb.size)⟩
theorem pnE (w : World) (x y : UInt8) (A : Option Addr) (c : Nat) (h : Rds w w.heap.size A (([1, 2, 3] : List UInt8).map bv)) (ht : PTab 0 w) (z z' : Int) (hz : (x.toNat : Int) = z) (hz' : (y.toNat : Int) = z') (he : ev [1, 2, 3] x = y) : Calls Tryd.prog 16 #[.slice A 3 c, .int .u8 z] w fun e w' => e = .returned (.int .u8 z') ∧ Below w.heap.size w w' := by
  subst he hz hz'
  exact eval_any [1, 2, 3] x A 3 c w rfl (by decide) h ht
set_option maxRecDepth 100000 in
set_option maxHeartbeats 8000000 in
theorem sanity_any6 (w : World) (ht : PTab 0 w) : Calls Tryd.prog 15 #[] w fun e w' => e = .returned (.bool true) ∧ Below w.heap.size w w' := by
  obtain ⟨Rp0, hb0⟩ := lit1 w [1, 2, 3]
  have Rp := Lib.hid Rp0
  have T := Lib.hid (ht.below hb0 ht.1)
  have E := Lib.hid hb0
  clear Rp0 hb0 ht
  go_enter Tryd.func15, Tryd.ntmps15
  go_wp2_with fail
  refine (pn1 (W1l w [1, 2, 3]) _ _ (by simp [W1l]) (by simp [W1l]) T.out).mono ?_
  rintro e w1 ⟨A1, c1, rfl, hr1, hb⟩
  replace Rp := Lib.hid ((Rp.out.below hb).more hb.size)
  replace E : Hid (Below w.heap.size w w1) := E.out.trans (hb.mono E.out.size)
  replace T := Lib.hid (T.out.below hb T.out.1)
  clear hb
  have R1 := Lib.hid hr1
  clear hr1
  go_wp2_with fail
  refine (pn2 w1 _ _ rfl rfl T.out).mono ?_
  rintro e w2 ⟨A2, c2, A2x, c2x, rfl, hr2, hb⟩
  replace Rp := Lib.hid ((Rp.out.below hb).more hb.size)
  replace R1 := Lib.hid ((R1.out.below hb).more hb.size)
  replace E : Hid (Below w.heap.size w w2) := E.out.trans (hb.mono E.out.size)
  replace T := Lib.hid (T.out.below hb T.out.1)
  clear hb
  have R2 := Lib.hid hr2
  clear hr2
  go_wp2_with fail
  refine (pn3 w2 _ _ rfl Rp.out).mono ?_
  rintro e w3 ⟨rfl, hb⟩
  replace Rp := Lib.hid ((Rp.out.below hb).more hb.size)
  replace R1 := Lib.hid ((R1.out.below hb).more hb.size)
  replace R2 := Lib.hid ((R2.out.below hb).more hb.size)
  replace E : Hid (Below w.heap.size w w3) := E.out.trans (hb.mono E.out.size)
  replace T := Lib.hid (T.out.below hb T.out.1)
  clear hb
  go_wp2_with fail
  refine (pn4 w3 _ _ rfl rfl T.out).mono ?_
  rintro e w4 ⟨A4, c4, rfl, hr4, hb⟩
  replace Rp := Lib.hid ((Rp.out.below hb).more hb.size)
  replace R1 := Lib.hid ((R1.out.below hb).more hb.size)
  replace R2 := Lib.hid ((R2.out.below hb).more hb.size)
  replace E : Hid (Below w.heap.size w w4) := E.out.trans (hb.mono E.out.size)
  replace T := Lib.hid (T.out.below hb T.out.1)
  clear hb
  have R4 := Lib.hid hr4
  clear hr4
  go_wp2_with fail
  refine (pn5 w4 _ _ rfl rfl T.out).mono ?_
  rintro e w5 ⟨rfl, hb⟩
  replace Rp := Lib.hid ((Rp.out.below hb).more hb.size)
  replace R1 := Lib.hid ((R1.out.below hb).more hb.size)
  replace R2 := Lib.hid ((R2.out.below hb).more hb.size)
  replace R4 := Lib.hid ((R4.out.below hb).more hb.size)
  replace E : Hid (Below w.heap.size w w5) := E.out.trans (hb.mono E.out.size)
  replace T := Lib.hid (T.out.below hb T.out.1)
  clear hb
  go_wp2_with fail
  refine (pn6 w5 _ _ rfl rfl T.out).mono ?_
  rintro e w6 ⟨A6, c6, rfl, hr6, hb⟩
  replace Rp := Lib.hid ((Rp.out.below hb).more hb.size)
  replace R1 := Lib.hid ((R1.out.below hb).more hb.size)
  replace R2 := Lib.hid ((R2.out.below hb).more hb.size)
  replace R4 := Lib.hid ((R4.out.below hb).more hb.size)
  replace E : Hid (Below w.heap.size w w6) := E.out.trans (hb.mono E.out.size)
  replace T := Lib.hid (T.out.below hb T.out.1)
  clear hb
  have R6 := Lib.hid hr6
  clear hr6
  go_wp2_with fail
  refine (pn7 w6 _ _ rfl rfl T.out).mono ?_
  rintro e w7 ⟨A7, c7, A7x, c7x, rfl, hr7, hr7x, hb⟩
  replace Rp := Lib.hid ((Rp.out.below hb).more hb.size)
  replace R1 := Lib.hid ((R1.out.below hb).more hb.size)
  replace R2 := Lib.hid ((R2.out.below hb).more hb.size)
  replace R4 := Lib.hid ((R4.out.below hb).more hb.size)
  replace R6 := Lib.hid ((R6.out.below hb).more hb.size)
  replace E : Hid (Below w.heap.size w w7) := E.out.trans (hb.mono E.out.size)
  replace T := Lib.hid (T.out.below hb T.out.1)
  clear hb
  have R7 := Lib.hid hr7
  clear hr7
  have R7x := Lib.hid hr7x
  clear hr7x
  go_wp2_with fail
  refine (pn8 w7 _ _ rfl rfl).mono ?_
  rintro e w8 ⟨rfl, hb⟩
  replace Rp := Lib.hid ((Rp.out.below hb).more hb.size)
  replace R1 := Lib.hid ((R1.out.below hb).more hb.size)
  replace R2 := Lib.hid ((R2.out.below hb).more hb.size)
  replace R4 := Lib.hid ((R4.out.below hb).more hb.size)
  replace R6 := Lib.hid ((R6.out.below hb).more hb.size)
  replace R7 := Lib.hid ((R7.out.below hb).more hb.size)
  replace R7x := Lib.hid ((R7x.out.below hb).more hb.size)
  replace E : Hid (Below w.heap.size w w8) := E.out.trans (hb.mono E.out.size)
  replace T := Lib.hid (T.out.below hb T.out.1)
  clear hb
  go_wp2_with fail
  refine (pnS w8 [1, 0, 1] [1, 0, 1] A1 3 3 c1 _ rfl rfl rfl (by decide) R1.out (Nat.le_refl _) (by decide)).mono ?_
  rintro e w9 ⟨rfl, hb⟩
  replace Rp := Lib.hid ((Rp.out.below hb).more hb.size)
  replace R1 := Lib.hid ((R1.out.below hb).more hb.size)
  replace R2 := Lib.hid ((R2.out.below hb).more hb.size)
  replace R4 := Lib.hid ((R4.out.below hb).more hb.size)
  replace R6 := Lib.hid ((R6.out.below hb).more hb.size)
  replace R7 := Lib.hid ((R7.out.below hb).more hb.size)
  replace R7x := Lib.hid ((R7x.out.below hb).more hb.size)
  replace E : Hid (Below w.heap.size w w9) := E.out.trans (hb.mono E.out.size)
  replace T := Lib.hid (T.out.below hb T.out.1)
  clear hb
  go_wp2_with fail
  refine (pnS w9 [1, 1] [1, 1] A2 2 2 c2 _ rfl rfl rfl (by decide) R2.out (Nat.le_refl _) (by decide)).mono ?_
  rintro e w10 ⟨rfl, hb⟩
  replace Rp := Lib.hid ((Rp.out.below hb).more hb.size)
  replace R1 := Lib.hid ((R1.out.below hb).more hb.size)
  replace R2 := Lib.hid ((R2.out.below hb).more hb.size)
  replace R4 := Lib.hid ((R4.out.below hb).more hb.size)
  replace R6 := Lib.hid ((R6.out.below hb).more hb.size)
  replace R7 := Lib.hid ((R7.out.below hb).more hb.size)
  replace R7x := Lib.hid ((R7x.out.below hb).more hb.size)
  replace E : Hid (Below w.heap.size w w10) := E.out.trans (hb.mono E.out.size)
  replace T := Lib.hid (T.out.below hb T.out.1)
  clear hb
  go_wp2_with fail
  refine (pnSame w10 [1, 2, 3] [1, 2, 3] A4 _ 3 3 c4 3 rfl rfl (by decide) R4.out Rp.out (by decide)).mono ?_
  rintro e w11 ⟨rfl, hb⟩
  replace Rp := Lib.hid ((Rp.out.below hb).more hb.size)
  replace R1 := Lib.hid ((R1.out.below hb).more hb.size)
  replace R2 := Lib.hid ((R2.out.below hb).more hb.size)
  replace R4 := Lib.hid ((R4.out.below hb).more hb.size)
  replace R6 := Lib.hid ((R6.out.below hb).more hb.size)
  replace R7 := Lib.hid ((R7.out.below hb).more hb.size)
  replace R7x := Lib.hid ((R7x.out.below hb).more hb.size)
  replace E : Hid (Below w.heap.size w w11) := E.out.trans (hb.mono E.out.size)
  replace T := Lib.hid (T.out.below hb T.out.1)
  clear hb
  go_wp2_with fail
  refine (pnSame w11 [1, 2, 3] [1, 2, 3] A6 _ 3 3 c6 3 rfl rfl (by decide) R6.out Rp.out (by decide)).mono ?_
  rintro e w12 ⟨rfl, hb⟩
  replace Rp := Lib.hid ((Rp.out.below hb).more hb.size)
  replace R1 := Lib.hid ((R1.out.below hb).more hb.size)
  replace R2 := Lib.hid ((R2.out.below hb).more hb.size)
  replace R4 := Lib.hid ((R4.out.below hb).more hb.size)
  replace R6 := Lib.hid ((R6.out.below hb).more hb.size)
  replace R7 := Lib.hid ((R7.out.below hb).more hb.size)
  replace R7x := Lib.hid ((R7x.out.below hb).more hb.size)
  replace E : Hid (Below w.heap.size w w12) := E.out.trans (hb.mono E.out.size)
  replace T := Lib.hid (T.out.below hb T.out.1)
  clear hb
  go_wp2_with fail
  refine (pnSame w12 [1, 2, 3] [1, 2, 3] A7 _ 3 3 c7 3 rfl rfl (by decide) R7.out Rp.out (by decide)).mono ?_
  rintro e w13 ⟨rfl, hb⟩
  replace Rp := Lib.hid ((Rp.out.below hb).more hb.size)
  replace R1 := Lib.hid ((R1.out.below hb).more hb.size)
  replace R2 := Lib.hid ((R2.out.below hb).more hb.size)
  replace R4 := Lib.hid ((R4.out.below hb).more hb.size)
  replace R6 := Lib.hid ((R6.out.below hb).more hb.size)
  replace R7 := Lib.hid ((R7.out.below hb).more hb.size)
  replace R7x := Lib.hid ((R7x.out.below hb).more hb.size)
  replace E : Hid (Below w.heap.size w w13) := E.out.trans (hb.mono E.out.size)
  replace T := Lib.hid (T.out.below hb T.out.1)
  clear hb
  go_wp2_with fail
  refine (pnI w13 A7x c7x _ rfl R7x.out (Nat.le_refl _)).mono ?_
  rintro e w14 ⟨rfl, hb⟩
  replace Rp := Lib.hid ((Rp.out.below hb).more hb.size)
  replace R1 := Lib.hid ((R1.out.below hb).more hb.size)
  replace R2 := Lib.hid ((R2.out.below hb).more hb.size)
  replace R4 := Lib.hid ((R4.out.below hb).more hb.size)
  replace R6 := Lib.hid ((R6.out.below hb).more hb.size)
  replace R7 := Lib.hid ((R7.out.below hb).more hb.size)
  replace R7x := Lib.hid ((R7x.out.below hb).more hb.size)
  replace E : Hid (Below w.heap.size w w14) := E.out.trans (hb.mono E.out.size)
  replace T := Lib.hid (T.out.below hb T.out.1)
  clear hb
  go_wp2_with fail
  refine (pnE w14 2 9 _ 3 Rp.out T.out 2 9 (by decide) (by decide) (by decide +kernel)).mono ?_
  rintro e w15 ⟨rfl, hb⟩
  replace Rp := Lib.hid ((Rp.out.below hb).more hb.size)
  replace R1 := Lib.hid ((R1.out.below hb).more hb.size)
  replace R2 := Lib.hid ((R2.out.below hb).more hb.size)
  replace R4 := Lib.hid ((R4.out.below hb).more hb.size)
  replace R6 := Lib.hid ((R6.out.below hb).more hb.size)
  replace R7 := Lib.hid ((R7.out.below hb).more hb.size)
  replace R7x := Lib.hid ((R7x.out.below hb).more hb.size)
  replace E : Hid (Below w.heap.size w w15) := E.out.trans (hb.mono E.out.size)
  replace T := Lib.hid (T.out.below hb T.out.1)
  clear hb
  go_wp2_with fail
  refine (pnE w15 0 1 _ 3 Rp.out T.out 0 1 (by decide) (by decide) (by decide +kernel)).mono ?_
  rintro e w16 ⟨rfl, hb⟩
  replace Rp := Lib.hid ((Rp.out.below hb).more hb.size)
  replace R1 := Lib.hid ((R1.out.below hb).more hb.size)
  replace R2 := Lib.hid ((R2.out.below hb).more hb.size)
  replace R4 := Lib.hid ((R4.out.below hb).more hb.size)
  replace R6 := Lib.hid ((R6.out.below hb).more hb.size)
  replace R7 := Lib.hid ((R7.out.below hb).more hb.size)
  replace R7x := Lib.hid ((R7x.out.below hb).more hb.size)
  replace E : Hid (Below w.heap.size w w16) := E.out.trans (hb.mono E.out.size)
  replace T := Lib.hid (T.out.below hb T.out.1)
  clear hb
  go_wp2_with fail
  refine (pnD1 w16 _ rfl).mono ?_
  rintro e w17 ⟨rfl, hb⟩
  replace Rp := Lib.hid ((Rp.out.below hb).more hb.size)
  replace R1 := Lib.hid ((R1.out.below hb).more hb.size)
  replace R2 := Lib.hid ((R2.out.below hb).more hb.size)
  replace R4 := Lib.hid ((R4.out.below hb).more hb.size)
  replace R6 := Lib.hid ((R6.out.below hb).more hb.size)
  replace R7 := Lib.hid ((R7.out.below hb).more hb.size)
  replace R7x := Lib.hid ((R7x.out.below hb).more hb.size)
  replace E : Hid (Below w.heap.size w w17) := E.out.trans (hb.mono E.out.size)
  replace T := Lib.hid (T.out.below hb T.out.1)
  clear hb
  go_wp2_with fail
  refine (pnD2 w17 _ rfl).mono ?_
  rintro e w18 ⟨rfl, hb⟩
  replace Rp := Lib.hid ((Rp.out.below hb).more hb.size)
  replace R1 := Lib.hid ((R1.out.below hb).more hb.size)
  replace R2 := Lib.hid ((R2.out.below hb).more hb.size)
  replace R4 := Lib.hid ((R4.out.below hb).more hb.size)
  replace R6 := Lib.hid ((R6.out.below hb).more hb.size)
  replace R7 := Lib.hid ((R7.out.below hb).more hb.size)
  replace R7x := Lib.hid ((R7x.out.below hb).more hb.size)
  replace E : Hid (Below w.heap.size w w18) := E.out.trans (hb.mono E.out.size)
  replace T := Lib.hid (T.out.below hb T.out.1)
  clear hb
  go_wp2_with fail
  refine (pnT w18 _ rfl).mono ?_
  rintro e w19 ⟨A19, c19, rfl, hr19, hb⟩
  replace Rp := Lib.hid ((Rp.out.below hb).more hb.size)
  replace R1 := Lib.hid ((R1.out.below hb).more hb.size)
  replace R2 := Lib.hid ((R2.out.below hb).more hb.size)
  replace R4 := Lib.hid ((R4.out.below hb).more hb.size)
  replace R6 := Lib.hid ((R6.out.below hb).more hb.size)
  replace R7 := Lib.hid ((R7.out.below hb).more hb.size)
  replace R7x := Lib.hid ((R7x.out.below hb).more hb.size)
  replace E : Hid (Below w.heap.size w w19) := E.out.trans (hb.mono E.out.size)
  replace T := Lib.hid (T.out.below hb T.out.1)
  clear hb
  have R19 := Lib.hid hr19
  clear hr19
  go_wp2_with fail
  refine (pnS w19 [5] [5] A19 1 1 c19 _ rfl rfl rfl (by decide) R19.out (Nat.le_refl _) (by decide)).mono ?_
  rintro e w20 ⟨rfl, hb⟩
  replace Rp := Lib.hid ((Rp.out.below hb).more hb.size)
  replace R1 := Lib.hid ((R1.out.below hb).more hb.size)
  replace R2 := Lib.hid ((R2.out.below hb).more hb.size)
  replace R4 := Lib.hid ((R4.out.below hb).more hb.size)
  replace R6 := Lib.hid ((R6.out.below hb).more hb.size)
  replace R7 := Lib.hid ((R7.out.below hb).more hb.size)
  replace R7x := Lib.hid ((R7x.out.below hb).more hb.size)
  replace R19 := Lib.hid ((R19.out.below hb).more hb.size)
  replace E : Hid (Below w.heap.size w w20) := E.out.trans (hb.mono E.out.size)
  replace T := Lib.hid (T.out.below hb T.out.1)
  clear hb
  go_wp2_with fail
  go_ret
  exact ⟨by first | rfl | (go_simp; done) | (go_simp; rfl), E.out⟩
end Go.Proofs.YtbilfhipmebmlaaDoor

namespace Go.Proofs.YtbilfhipmebmlaaDoor
set_option linter.unusedVariables false
set_option linter.unusedSimpArgs false
open Go.RowKit

/-- A list of bytes that is read, its length a variable. -/
structure RowV (W : World) (A : Option Addr) (n c : Nat) (l : List UInt8) : Prop where
  len : n = l.length
  cap : n ≤ c
  max : c ≤ maxLen
  nil : A = none → c = 0
  rds : Rds W W.heap.size A (l.map bv)
section
variable {W W' : World} {A A' : Option Addr} {n c n' c' : Nat} {l m : List UInt8}
theorem RowV.keep (h : RowV W A n c l) (hb : Below W.heap.size W W') : RowV W' A n c l := ⟨h.len, h.cap, h.max, h.nil, (h.rds.below hb).more hb.size⟩
theorem rowV_own {base : Nat} {v : Value} (h : OwnB W base v l) : ∃ A n c, v = .slice A n c ∧ RowV W A n c l := by
  obtain ⟨A, c, rfl, h1, h2, h3, h4⟩ := own_form h
  exact ⟨A, _, c, rfl, rfl, h1, h2, h3, h4⟩
theorem RowV.row (h : RowV W A n c l) : RowAt W W.heap.size (.slice A n c) l := ⟨A, c, by rw [h.len], by rw [← h.len]; exact h.cap, h.max, h.nil, h.rds⟩
theorem eval_v (h : RowV W A n c l) (x : UInt8) (hl : n ≤ 100000) (ht : PTab 0 W) : Calls Tryd.prog 16 #[.slice A n c, .int .u8 (x.toNat : Int)] W fun e w' => e = .returned (.int .u8 ((ev l x).toNat : Int)) ∧ Below W.heap.size W w' :=
  eval_any l x A n c W h.len.symm (by omega) h.rds ht
theorem degree_v (h : RowV W A n c l) (hl : n ≤ 100000) : Calls Tryd.prog 18 #[.slice A n c] W fun e w' => e = .returned (.int .i64 ((dg l : Int) - 1)) ∧ w' = W := by
  have := degree_any l A c W h.rds (by rw [← h.len]; omega)
  rw [← h.len] at this
  exact this
theorem trim_v (h : RowV W A n c l) (hl : n ≤ 100000) : Calls Tryd.prog 21 #[.slice A n c] W fun e w' => ∃ A n c, e = .returned (.slice A n c) ∧ RowV w' A n c (trim l) ∧ Below W.heap.size W w' := by
  refine (trim6_any l _ W h.row (Nat.le_refl _) (by rw [← h.len]; exact hl)).mono ?_
  rintro e w' ⟨v, rfl, ho, hb⟩
  obtain ⟨A2, n2, c2, rfl, h2⟩ := rowV_own ho
  exact ⟨A2, n2, c2, rfl, h2, hb⟩
theorem add_v (h : RowV W A n c l) (h' : RowV W A' n' c' m) (hl : n ≤ 100000) (hl' : n' ≤ 100000) : Calls Tryd.prog 23 #[.slice A n c, .slice A' n' c'] W fun e w' => ∃ A n c, e = .returned (.slice A n c) ∧ RowV w' A n c (trim (Gf.vsum l m)) ∧ Below W.heap.size W w' := by
  refine (add6_any l m _ _ W h.row h'.row (Nat.le_refl _) (by rw [← h.len]; exact hl) (by rw [← h'.len]; exact hl')).mono ?_
  rintro e w' ⟨v, rfl, ho, hb⟩
  obtain ⟨A2, n2, c2, rfl, h2⟩ := rowV_own ho
  exact ⟨A2, n2, c2, rfl, h2, hb⟩
theorem mul_v (h : RowV W A n c l) (h' : RowV W A' n' c' m) (hl : n ≤ 256) (hl' : n' ≤ 256) (ht : PTab 0 W) : Calls Tryd.prog 25 #[.slice A n c, .slice A' n' c'] W fun e w' => ∃ A n c, e = .returned (.tuple #[.slice A n c, .int .i64 0]) ∧ RowV w' A n c (trim (pmul l m)) ∧ Below W.heap.size W w' := by
  have := mul6_any l m A A' c c' W h.rds h'.rds (Nat.le_refl _) (by rw [← h.len]; exact hl) (by rw [← h'.len]; exact hl') ht
  rw [← h.len, ← h'.len] at this
  refine this.mono ?_
  rintro e w' ⟨v, rfl, ho, hb⟩
  obtain ⟨A2, n2, c2, rfl, h2⟩ := rowV_own ho
  exact ⟨A2, n2, c2, rfl, h2, hb⟩
theorem divmod_v (h : RowV W A n c l) (h' : RowV W A' n' c' m) (hl : n ≤ 256) (hl' : n' ≤ 256) (h0 : 0 < dg m) (ht : PTab 0 W) : Calls Tryd.prog 26 #[.slice A n c, .slice A' n' c'] W fun e w' => ∃ A n c A' n' c', e = .returned (.tuple #[.slice A n c, .slice A' n' c', .int .i64 0]) ∧ RowV w' A n c (dq l m) ∧ RowV w' A' n' c' (dr l m) ∧ Below W.heap.size W w' := by
  have := divmod_ok l m A A' c c' W h.rds h'.rds (Nat.le_refl _) (by rw [← h.len]; exact hl) (by rw [← h'.len]; exact hl') (by rw [← h.len]; exact h.cap) h.max h.nil (by rw [← h'.len]; exact h'.cap) h0 ht
  rw [← h.len, ← h'.len] at this
  refine this.mono ?_
  rintro e w' ⟨vq, vr, rfl, hq, hr, hb⟩
  obtain ⟨A2, n2, c2, rfl, h2⟩ := rowV_own hq
  obtain ⟨A3, n3, c3, rfl, h3⟩ := rowV_own hr
  exact ⟨A2, n2, c2, A3, n3, c3, rfl, h2, h3, hb⟩
theorem divmodz_v (h' : RowV W A' n' c' m) (hl : n ≤ 256) (hl' : n' ≤ 256) (h0 : dg m = 0) : Calls Tryd.prog 26 #[.slice A n c, .slice A' n' c'] W fun e w' => e = .returned (.tuple #[.slice none 0 0, .slice none 0 0, .int .i64 1]) ∧ w' = W := by
  have := divmod_zero m n c c' A A' W h'.rds hl (by rw [← h'.len]; exact hl') h0
  rw [← h'.len] at this
  exact this
theorem same6_v (h : RowV W A n c l) (h' : RowV W A' n' c' m) (hl : n ≤ 100000) : Calls Tryd.prog 20 #[.slice A n c, .slice A' n' c'] W fun e w' => e = .returned (.bool (sameB l m)) ∧ Below W.heap.size W w' := by
  have := refSame6_any l m A A' c c' W h.rds h'.rds (by rw [← h.len]; omega)
  rw [← h.len, ← h'.len] at this
  refine this.mono ?_
  rintro e w' ⟨rfl, k, rfl⟩
  exact ⟨rfl, below_dN (Below.refl _ _) k⟩
theorem gmul_v (x y z : UInt8) (hz : Gf.mul x y = z) (ht : PTab 0 W) : Calls Tryd.prog 36 #[.int .u8 (x.toNat : Int), .int .u8 (y.toNat : Int)] W fun e w' => e = .returned (.int .u8 (z.toNat : Int)) ∧ Below W.heap.size W w' := by
  subst hz
  refine (mul_any x y W ht).mono ?_
  rintro e w' ⟨rfl, k, rfl⟩
  exact ⟨rfl, below_dN (Below.refl _ _) k⟩
end
end Go.Proofs.YtbilfhipmebmlaaDoor
