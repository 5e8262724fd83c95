/-
  Stage 7: decoding has one answer; Distance of any code; the example of the documentation. Stage 7: the example of the documentation, in memory; sanity. (Written by tools/genceu.py.). Stage 7: sanity, the walk. (Written by tools/gencev.py.). Stage 7: what comes back of a chunk (maths of CodeRoundTrips). Stage 7: small facts of the walk of CodeRoundTrips; the bytes of a string, as a row that is written. Stage 7: the walk of CodeRoundTrips. (Written by tools/gencex.py.).
-/
import Derived.Test.YtcnljemnkhmfcaaDoorCe6s
import Derived.Test.YtcnljemnkhmfcaaDoorCe45
import Derived.Laws.IdiomStrings
namespace Go.Proofs.YtcnljemnkhmfcaaDoor
set_option linter.unusedVariables false
set_option linter.unusedSimpArgs false
open Go.RowKit

theorem crow_dot {D k : Nat} {Gs : List (List Int)} (X : Nat → UInt8) : dot7 D (rfn (crow D Gs k D)) X = xsum D fun i => Gf.mul (cr D Gs k i) (X i) := by
  unfold dot7
  refine xsum_congr fun i hi => ?_
  show Gf.mul ((crow D Gs k D).getD i 0) _ = _
  rw [crow_at D Gs k hi]
/-- Pieces of full rank stand for one chunk. -/
theorem has_uniq {D s cnt z : Nat} {Gs : List (List Int)} {ps : List (List UInt8)} {P Q : List UInt8} (hf : Full7 (pcL D Gs s cnt) D) (hP : HasP D Gs s cnt z ps P) (hQ : HasP D Gs s cnt z ps Q) (lP : P.length = D * z) (lQ : Q.length = D * z) : P = Q := by
  apply List.ext_getElem?
  intro j
  by_cases hj : j < D * z
  · have hz : 0 < z := by
      rcases Nat.eq_zero_or_pos z with h | h
      · rw [h, Nat.mul_zero] at hj; omega
      · exact h
    have hi : j / z < D := (Nat.div_lt_iff_lt_mul hz).2 hj
    have ht : j % z < z := Nat.mod_lt _ hz
    have hjz : j / z * z + j % z = j := by rw [Nat.mul_comm]; exact Nat.div_add_mod j z
    have this : P.getD (j / z * z + j % z) 0 ^^^ Q.getD (j / z * z + j % z) 0 = 0 := hf (fun i => P.getD (i * z + j % z) 0 ^^^ Q.getD (i * z + j % z) 0) (fun r hr => by
      obtain ⟨k, hk, hb, rfl⟩ := pcL_mem.1 hr
      rw [crow_dot]
      have e1 := pce_at (D := D) (Gs := Gs) (P := P) (k := k) ht
      have e2 := pce_at (D := D) (Gs := Gs) (P := Q) (k := k) ht
      rw [hP k hk hb] at e1
      rw [hQ k hk hb] at e2
      have e3 := xsum_add D (fun i => Gf.mul (cr D Gs k i) (P.getD (i * z + j % z) 0)) (fun i => Gf.mul (cr D Gs k i) (Q.getD (i * z + j % z) 0))
      rw [← e1, ← e2, UInt8.xor_self] at e3
      exact Eq.trans (xsum_congr fun i _ => Gf.mul_xor _ _ _) e3) (j / z) hi
    rw [hjz] at this
    have e := UInt8.xor_eq_zero_iff.1 this
    rw [List.getD_eq_getElem?_getD, List.getD_eq_getElem?_getD, List.getElem?_eq_getElem (by omega), List.getElem?_eq_getElem (by omega)] at e
    rw [List.getElem?_eq_getElem (by omega), List.getElem?_eq_getElem (by omega)]
    exact congrArg some e
  · rw [List.getElem?_eq_none (by omega), List.getElem?_eq_none (by omega)]
theorem HasP.sub {D s s' cnt z : Nat} {Gs : List (List Int)} {ps : List (List UInt8)} {P : List UInt8} (h : HasP D Gs s cnt z ps P) (hs : ∀ k, k < cnt → s'.testBit k = true → s.testBit k = true) : HasP D Gs s' cnt z ps P := fun k hk hb => h k hk (hs k hk hb)

theorem distance_any {B : Nat} (D G : Int) (Gs : List (List Int)) (n c : Nat) (A : Option Addr) (w : World) (hM : CodM w B D A n c G Gs) (ht : PTab 0 w) :
    Calls Tryd.prog 26 #[cdv D A n c G] w (DisEnd w D G Gs) := by
  by_cases h0 : chkE D Gs G = 0
  · obtain ⟨b1, b2, b3, b4, b5, b6⟩ := cchk_ok h0
    obtain ⟨d, rfl⟩ : ∃ d : Nat, D = d := ⟨D.toNat, by omega⟩
    obtain ⟨g, rfl⟩ : ∃ g : Nat, G = g := ⟨G.toNat, by omega⟩
    exact distance_ok w hM h0 ht
  · exact distance_bad D G Gs n c A w hM h0

/-- Whether pieces have the full rank, by count. -/
theorem full_rk {D s cnt : Nat} {Gs : List (List Int)} : Full7 (pcL D Gs s cnt) D ↔ rk7 D 0 (pcL D Gs s cnt) = D := (rk7_full fun r hr => by obtain ⟨k, _, _, rfl⟩ := pcL_mem.1 hr; exact crow_len _ _ _ _).symm
def exG : List (List Int) := [[0, 1], [2, 3]]
def exT : List (List UInt8) := [[1, 2], [3, 4], [5, 6], [7, 0], [2, 6], [2, 6], [43, 18]]
def exB : List (List UInt8) := [[1, 2], [3, 4], [5, 6], [7, 0], [2, 6], [2, 7], [43, 18]]
theorem ex_chk : chkE 4 exG 1 = 0 := by decide +kernel
theorem ex_rows : rowsT 4 1 exG = [[1, 0, 0, 0], [0, 1, 0, 0], [0, 0, 1, 0], [0, 0, 0, 1], [1, 1, 0, 0], [0, 0, 1, 1], [1, 2, 4, 8]] := by decide +kernel
theorem ex_encE : encE 4 1 exG [1, 2, 3, 4, 5, 6, 7] = 0 := by decide +kernel
theorem ex_encT : encT 4 1 exG [1, 2, 3, 4, 5, 6, 7] = exT := by decide +kernel
theorem ex_yes : ∀ y, y < 128 → Pop.ones 7 y < 3 → rk7 4 0 (pcL 4 exG (lef7 7 y) 7) = 4 := by decide +kernel
theorem ex_120 : rk7 4 0 (pcL 4 exG 120 7) = 4 := by decide +kernel
theorem ex_no : rk7 4 0 (pcL 4 exG 60 7) ≠ 4 := by decide +kernel
theorem ex_15 : rk7 4 0 (pcL 4 exG 15 7) = 4 := by decide +kernel
theorem ex_dist {d : Nat} (h : DisR 4 7 exG d) : d = 3 := by
  obtain ⟨h1, h2, h3⟩ := h
  have hle : d ≤ 3 := Nat.le_of_not_lt fun hl => by
    have := h1 67 (by decide) (by decide) (by rw [← ones_cnt7 7 67 (by decide)]; exact Nat.lt_of_le_of_lt (by decide) hl)
    exact ex_no (full_rk.1 this)
  rcases h3 with h3 | ⟨y, y0, y1, y2, y3⟩
  · omega
  · refine Nat.le_antisymm hle (Nat.le_of_not_lt fun hl => y3 (full_rk.2 (ex_yes y y1 ?_)))
    rw [ones_cnt7 7 y y1]; omega
abbrev exD7 : List UInt8 := [1, 2, 3, 4, 5, 6, 7]
theorem ex_has {s : Nat} (h : s = 30 ∨ s = 127) : HasP 4 exG s 7 2 exT (filP 4 2 exD7) := by
  rcases h with rfl | rfl <;> (unfold HasP; decide +kernel)
theorem ex_hasB : HasP 4 exG 15 7 2 exB (filP 4 2 exD7) := by unfold HasP; decide +kernel
theorem ex_30 : rk7 4 0 (pcL 4 exG 30 7) = 4 := by decide +kernel
theorem ex_127 : rk7 4 0 (pcL 4 exG 127 7) = 4 := by decide +kernel
theorem ex_dec1 {x : List UInt8} {E : Int} (h : DecR 4 1 exG 7 30 exT x E) : x = exD7 ∧ E = 0 := by
  rcases h with ⟨h, _⟩ | ⟨_, h, _⟩ | ⟨_, _, h, _⟩ | ⟨_, _, hf, h⟩
  · exact absurd ex_chk h
  · exact absurd (by unfold DecA FitP; decide +kernel) h
  · exact absurd (full_rk.2 ex_30) h
  · have hf' : Full7 (pcL 4 exG 30 7) 4 := hf
    rcases h with ⟨h1, h2, h3⟩ | ⟨_, _, h3⟩
    · have h2' : x.length = 7 := h2
      have h3' : HasP 4 exG 30 7 2 exT (filP 4 2 x) := h3
      have := has_uniq hf' h3' (ex_has (.inl rfl)) (by unfold filP; rw [List.length_append, List.length_replicate]; omega) rfl
      have e1 := fil_take (D := 4) (z := 2) h2' (by omega)
      have e2 := fil_take (D := 4) (z := 2) (show exD7.length = 7 from rfl) (by omega)
      rw [this] at e1
      exact ⟨e1.symm.trans e2, h1⟩
    · exact absurd (ex_has (.inl rfl)) (h3 exD7 rfl)
theorem ex_dec2 {x : List UInt8} {E : Int} (h : DecR 4 1 exG 7 60 exT x E) : E = 17 := by
  rcases h with ⟨h, _⟩ | ⟨_, h, _⟩ | ⟨_, _, h, h1, _⟩ | ⟨_, _, hf, h⟩
  · exact absurd ex_chk h
  · exact absurd (by unfold DecA FitP; decide +kernel) h
  · exact h1
  · exact absurd (full_rk.1 hf) ex_no
theorem ex_dec3 {x : List UInt8} {E : Int} (h : DecR 4 1 exG 7 127 exB x E) : E = 14 := by
  rcases h with ⟨h, _⟩ | ⟨_, h, _⟩ | ⟨_, _, h, _⟩ | ⟨_, _, hf, h⟩
  · exact absurd ex_chk h
  · exact absurd (by unfold DecA FitP; decide +kernel) h
  · exact absurd (full_rk.2 ex_127) h
  · rcases h with ⟨h1, h2, h3⟩ | ⟨h1, _⟩
    · exfalso
      have h2' : x.length = 7 := h2
      have h3' : HasP 4 exG 127 7 2 exB (filP 4 2 x) := h3
      have h4 : HasP 4 exG 15 7 2 exB (filP 4 2 x) := h3'.sub (by decide +kernel)
      have := has_uniq (full_rk.2 ex_15) h4 ex_hasB (by unfold filP; rw [List.length_append, List.length_replicate]; omega) rfl
      rw [this] at h3'
      exact absurd (h3' 5 (by decide) (by decide)) (by decide +kernel)
    · exact h1
end Go.Proofs.YtcnljemnkhmfcaaDoor

namespace Go.Proofs.YtcnljemnkhmfcaaDoor
set_option linter.unusedVariables false
set_option linter.unusedSimpArgs false
open Go.RowKit

set_option maxRecDepth 100000 in
set_option maxHeartbeats 4000000 in
theorem example_any7 (w : World) : Calls Tryd.prog 31 #[] w fun e w' => ∃ a, e = .returned (cdv 4 (some ⟨a, 0, none⟩) 2 2 1) ∧ CodM w' w'.heap.size 4 (some ⟨a, 0, none⟩) 2 2 1 exG ∧ Below w.heap.size w w' := by
  have hdd := Lib.hid size_cod
  have hun : Hid (Tryd.prog.underlying 24 = _) := Tryd.underlying24
  go_enter Tryd.func31, Tryd.ntmps31
  go_wp2_with fail
  have b0 := Blk.new w [.int .i64 4, .slice (some ⟨w.heap.size + 1 + 1 + 1, 0, none⟩) 2 2, .int .i64 1] 24
  generalize hw1 : w.alloc _ = w1 at b0 ⊢
  have s1 : w1.heap.size = w.heap.size + 1 := by rw [← hw1]; simp
  have h1 : Below w.heap.size w w1 := by rw [← hw1]; exact (Below.refl _ _).alloc (Nat.le_refl _) _
  clear hw1
  have b1 := Blk.new w1 [.int .i64 0, .int .i64 1] 3
  have b0 := b0.alloc (.cells #[.int .i64 0, .int .i64 1] 3)
  generalize hw2 : w1.alloc _ = w2 at b0 b1 ⊢
  have s2 : w2.heap.size = w1.heap.size + 1 := by rw [← hw2]; simp
  have h2 : Below w.heap.size w w2 := by rw [← hw2]; exact h1.alloc (by omega) _
  clear hw2
  have b2 := Blk.new w2 [.int .i64 2, .int .i64 3] 3
  have b0 := b0.alloc (.cells #[.int .i64 2, .int .i64 3] 3)
  have b1 := b1.alloc (.cells #[.int .i64 2, .int .i64 3] 3)
  generalize hw3 : w2.alloc _ = w3 at b0 b1 b2 ⊢
  have s3 : w3.heap.size = w2.heap.size + 1 := by rw [← hw3]; simp
  have h3 : Below w.heap.size w w3 := by rw [← hw3]; exact h2.alloc (by omega) _
  clear hw3
  have b3 := Blk.new w3 [.slice (some ⟨w.heap.size + 1, 0, none⟩) 2 2, .slice (some ⟨w.heap.size + 1 + 1, 0, none⟩) 2 2] 60
  have b0 := b0.alloc (.cells #[.slice (some ⟨w.heap.size + 1, 0, none⟩) 2 2, .slice (some ⟨w.heap.size + 1 + 1, 0, none⟩) 2 2] 60)
  have b1 := b1.alloc (.cells #[.slice (some ⟨w.heap.size + 1, 0, none⟩) 2 2, .slice (some ⟨w.heap.size + 1 + 1, 0, none⟩) 2 2] 60)
  have b2 := b2.alloc (.cells #[.slice (some ⟨w.heap.size + 1, 0, none⟩) 2 2, .slice (some ⟨w.heap.size + 1 + 1, 0, none⟩) 2 2] 60)
  generalize hw4 : w3.alloc _ = w4 at b0 b1 b2 b3 ⊢
  have s4 : w4.heap.size = w3.heap.size + 1 := by rw [← hw4]; simp
  have h4 : Below w.heap.size w w4 := by rw [← hw4]; exact h3.alloc (by omega) _
  clear hw4
  refine bodyPost_ret (ret_blk rfl _ _ (g := w.heap.size) rfl b0 _ hun.out rfl hdd.out) rfl ?_
  have e1 : w.heap.size + 1 = w1.heap.size := s1.symm
  have e2 : w1.heap.size + 1 = w2.heap.size := s2.symm
  have e3 : w2.heap.size + 1 = w3.heap.size := s3.symm
  rw [e1, e2, e3]
  rw [e1, e2] at b3
  refine ⟨w3.heap.size, rfl, ⟨⟨[.slice (some ⟨w1.heap.size, 0, none⟩) 2 2, .slice (some ⟨w2.heap.size, 0, none⟩) 2 2], rfl, b3.rds 0 2, fun i v g hv hg => ?_⟩, Nat.le_refl _, rfl, (show 2 ≤ 140737488355328 by decide), fun g hg v hv => ?_⟩, h4⟩
  · match i, hv, hg with
    | 0, hv, hg =>
      injection hv with hv; injection hg with hg; subst hv; subst hg
      exact ⟨_, 2, rfl, Nat.le_refl _, (show 2 ≤ maxLen by decide), (fun h => by cases h), b1.rds 0 2⟩
    | 1, hv, hg =>
      injection hv with hv; injection hg with hg; subst hv; subst hg
      exact ⟨_, 2, rfl, Nat.le_refl _, (show 2 ≤ maxLen by decide), (fun h => by cases h), b2.rds 0 2⟩
    | n + 2, hv, hg => cases hv
  · simp [exG] at hg
    rcases hg with rfl | rfl <;> (simp at hv; rcases hv with rfl | rfl <;> constructor <;> decide)
section
variable {B n c : Nat} {A : Option Addr} {w : World}
def exR : List (List UInt8) := [[1, 0, 0, 0], [0, 1, 0, 0], [0, 0, 1, 0], [0, 0, 0, 1], [1, 1, 0, 0], [0, 0, 1, 1], [1, 2, 4, 8]]
theorem s7_rows (m : CodM w B 4 A n c 1 exG) (t : PTab 0 w) : Calls Tryd.prog 11 #[cdv 4 A n c 1] w fun e w' => ∃ ad c, e = .returned (.tuple #[.slice (some ad) 7 c, .int .i64 0]) ∧ Mat w' w'.heap.size (some ad) exR ∧ Below w.heap.size w w' := by
  refine (rows_any 4 1 exG n c A w m t).mono ?_
  rintro e w' ⟨A, c, rfl, hM, hb⟩
  rw [ex_rows, ex_chk]
  rw [ex_rows] at hM
  obtain ⟨ad, v, rfl, _⟩ := hM.at (i := 0) rfl
  exact ⟨ad, c, rfl, hM, hb⟩
theorem s7_enc (m : CodM w B 4 A n c 1 exG) (t : PTab 0 w) : Calls Tryd.prog 12 #[cdv 4 A n c 1, sv exD7] w fun e w' => ∃ g c rest, e = .returned (.tuple #[.slice (some ⟨g, 0, none⟩) 7 c, .int .i64 0]) ∧ w.heap.size ≤ g ∧ Blk w' g (exT.map sv ++ rest) 9 ∧ 7 ≤ c ∧ Below w.heap.size w w' := by
  refine (encodeX_any 4 1 exG n c A exD7 w m t (by decide)).mono ?_
  rintro e w' ⟨v, rfl, hO, hb⟩
  have e1 : encE 4 1 exG exD7 = 0 := ex_encE
  have e2 : encT 4 1 exG exD7 = exT := ex_encT
  rw [e2] at hO
  rw [e1]
  obtain ⟨g, c, rest, rfl, h1, h2, h3⟩ := ownS_blk hO (by decide)
  exact ⟨g, c, rest, rfl, h1, h2, h3, hb⟩
theorem s7_chk (m : CodM w B 4 A n c 1 exG) : Calls Tryd.prog 14 #[cdv 4 A n c 1] w fun e w' => e = .returned (.int .i64 0) ∧ Below w.heap.size w w' := by
  have := ccheck_any 4 1 exG n c A w m
  rw [ex_chk] at this
  exact this
theorem s7_rec {s : Nat} (m : CodM w B 4 A n c 1 exG) (t : PTab 0 w) (b : Bool) (hs : s < 128) (hb : b = true ↔ rk7 4 0 (pcL 4 exG s 7) = 4) : Calls Tryd.prog 24 #[cdv 4 A n c 1, .int .i64 (s : Int)] w fun e w' => e = .returned (.bool b) ∧ Below w.heap.size w w' := by
  refine (recoverable_any 4 1 s exG n c A w m t).mono ?_
  rintro e w' ⟨⟨b', rfl, hq⟩, h⟩
  have hR : RecP 4 exG 1 s ↔ rk7 4 0 (pcL 4 exG s 7) = 4 := by
    rw [← full_rk]
    exact ⟨fun h => h.2.2.2, fun h => ⟨ex_chk, by omega, by show (s : Int) < 2 ^ 7; omega, h⟩⟩
  have : b' = b := by
    rw [Bool.eq_iff_iff, hq, hb, hR]
  rw [this]
  exact ⟨rfl, h⟩
theorem s7_dist (m : CodM w B 4 A n c 1 exG) (t : PTab 0 w) : Calls Tryd.prog 26 #[cdv 4 A n c 1] w fun e w' => e = .returned (.tuple #[.int .i64 3, .int .i64 0]) ∧ Below w.heap.size w w' := by
  refine (distance_any 4 1 exG n c A w m t).mono ?_
  rintro e w' ⟨⟨d, er, rfl, h⟩, hb⟩
  rcases h with ⟨h, _⟩ | ⟨_, rfl, h⟩
  · exact absurd ex_chk h
  · obtain rfl := ex_dist h
    exact ⟨rfl, hb⟩
theorem s7_dec1 {g cc : Nat} {rest : List Value} (m : CodM w B 4 A n c 1 exG) (t : PTab 0 w) (hT : Blk w g (exT.map sv ++ rest) 9) (hc : 7 ≤ cc) : Calls Tryd.prog 22 #[cdv 4 A n c 1, .int .i64 7, .int .i64 30, .slice (some ⟨g, 0, none⟩) 7 cc] w fun e w' => e = .returned (.tuple #[sv exD7, .int .i64 0]) ∧ Below w.heap.size w w' := by
  refine (decode_any 4 1 7 30 exG n c A (some ⟨g, 0, none⟩) exT w m t (hT.rds 0 7) (by decide) hc).mono ?_
  rintro e w' ⟨x, E, rfl, h, hb⟩
  obtain ⟨rfl, rfl⟩ := ex_dec1 h
  exact ⟨rfl, hb⟩
theorem s7_dec2 {g cc : Nat} {rest : List Value} (m : CodM w B 4 A n c 1 exG) (t : PTab 0 w) (hT : Blk w g (exT.map sv ++ rest) 9) (hc : 7 ≤ cc) : Calls Tryd.prog 22 #[cdv 4 A n c 1, .int .i64 7, .int .i64 60, .slice (some ⟨g, 0, none⟩) 7 cc] w fun e w' => (∃ v, e = .returned (.tuple #[v, .int .i64 17])) ∧ Below w.heap.size w w' := by
  refine (decode_any 4 1 7 60 exG n c A (some ⟨g, 0, none⟩) exT w m t (hT.rds 0 7) (by decide) hc).mono ?_
  rintro e w' ⟨x, E, rfl, h, hb⟩
  obtain rfl := ex_dec2 h
  exact ⟨⟨_, rfl⟩, hb⟩
theorem s7_dec3 {g cc : Nat} {rest : List Value} (m : CodM w B 4 A n c 1 exG) (t : PTab 0 w) (hT : Blk w g (exB.map sv ++ rest) 9) (hc : 7 ≤ cc) : Calls Tryd.prog 22 #[cdv 4 A n c 1, .int .i64 7, .int .i64 127, .slice (some ⟨g, 0, none⟩) 7 cc] w fun e w' => (∃ v, e = .returned (.tuple #[v, .int .i64 14])) ∧ Below w.heap.size w w' := by
  refine (decode_any 4 1 7 127 exG n c A (some ⟨g, 0, none⟩) exB w m t (hT.rds 0 7) (by decide) hc).mono ?_
  rintro e w' ⟨x, E, rfl, h, hb⟩
  obtain rfl := ex_dec3 h
  exact ⟨⟨_, rfl⟩, hb⟩
end

end Go.Proofs.YtcnljemnkhmfcaaDoor

namespace Go.Proofs.YtcnljemnkhmfcaaDoor
set_option linter.unusedVariables false
set_option linter.unusedSimpArgs false
open Go.RowKit

theorem s7_pcs {B n c : Nat} {A : Option Addr} {w : World} (m : CodM w B 4 A n c 1 exG) : Calls Tryd.prog 15 #[cdv 4 A n c 1] w fun e w' => e = .returned (.int .i64 7) ∧ Below w.heap.size w w' := by
  have := pieces_any 4 1 exG n c A w m
  rw [if_pos ex_chk] at this
  exact this
theorem s7_size {B n c : Nat} {A : Option Addr} {w : World} (m : CodM w B 4 A n c 1 exG) : Calls Tryd.prog 17 #[cdv 4 A n c 1, .int .i64 7] w fun e w' => e = .returned (.int .i64 2) ∧ Below w.heap.size w w' := by
  have := Size_any 4 1 7 exG n c A w m
  rw [if_pos ⟨ex_chk, by decide, by decide⟩] at this
  exact this
theorem ex_124 : rk7 4 0 (pcL 4 exG 124 7) = 4 := by decide +kernel
set_option maxRecDepth 100000 in
set_option maxHeartbeats 16000000 in
theorem sanity_any7 (w : World) (ht : PTab 0 w) : Calls Tryd.prog 9 #[] w fun e w' => e = .returned (.bool true) ∧ Below w.heap.size w w' := by
  have hdd := Lib.hid size_cod
  have hun : Hid (Tryd.prog.underlying 24 = _) := Tryd.underlying24
  have hT := Lib.hid ht
  clear ht
  go_enter Tryd.func9, Tryd.ntmps9
  go_wp2_with fail
  refine (example_any7 w).mono ?_
  rintro e w1 ⟨a, rfl, m1, hb1⟩
  obtain ⟨v0, hW⟩ : ∃ W, W = w1.alloc (.cells #[.int .i64 4, .slice (some ⟨a, 0, none⟩) 2 2, .int .i64 1] 24) := ⟨_, rfl⟩
  have hb : Below w1.heap.size w1 v0 := by rw [hW]; exact (Below.refl _ _).alloc (Nat.le_refl _) _
  have E := Lib.hid (hb1.trans (hb.mono hb1.size))
  have M := Lib.hid (m1.keep hb)
  have T := Lib.hid (hT.out.on E.out)
  have X : Hid (Blk v0 w1.heap.size [.int .i64 4, .slice (some ⟨a, 0, none⟩) 2 2, .int .i64 1] 24) := by show Blk _ _ _ _; rw [hW]; exact Blk.new _ [_, _, _] _
  have hW' := Lib.hid hW
  have p0 : (w1.alloc (.cells #[.int .i64 4, .slice (some ⟨a, 0, none⟩) 2 2, .int .i64 1] 24)).cell? ⟨w1.heap.size, 0, none⟩ = some (.int .i64 4) := by rw [← hW]; exact X.out.cell (j := 0) rfl
  have p1 : (w1.alloc (.cells #[.int .i64 4, .slice (some ⟨a, 0, none⟩) 2 2, .int .i64 1] 24)).cell? ⟨w1.heap.size, 1, none⟩ = some (.slice (some ⟨a, 0, none⟩) 2 2) := by rw [← hW]; exact X.out.cell (j := 1) rfl
  have p2 : (w1.alloc (.cells #[.int .i64 4, .slice (some ⟨a, 0, none⟩) 2 2, .int .i64 1] 24)).cell? ⟨w1.heap.size, 2, none⟩ = some (.int .i64 1) := by rw [← hW]; exact X.out.cell (j := 2) rfl
  have hbw := hb1.size
  clear hW hb hb1 m1
  unfold cdv
  have hwg0 : w.heap.size ≤ w1.heap.size := hbw
  generalize hg1 : w1.heap.size = g1 at X p0 p1 p2 hwg0 M ⊢
  have hwg := Lib.hid hwg0
  clear hwg0
  go_wp2_with fail
  generalize hg : w1.alloc _ = Wg
  have hgW : v0 = Wg := by rw [← hg, hW'.out]
  clear hg hW' p0 p1 p2
  clear hg1
  subst hgW
  have C := s7_rows M.out T.out
  try unfold cdv at C
  refine C.mono ?_
  rintro e v1 ⟨ad, c2, rfl, hMat, hb⟩
  clear C
  replace E : Hid (Below w.heap.size w v1) := E.out.trans (hb.mono E.out.size)
  replace M := Lib.hid (M.out.keep hb)
  replace T := Lib.hid (T.out.on hb)
  replace X := Lib.hid (X.out.below hb X.out.lt)
  clear hb
  have R := Lib.hid hMat
  clear hMat
  have p0 := X.out.cell (j := 0) rfl
  have p1 := X.out.cell (j := 1) rfl
  have p2 := X.out.cell (j := 2) rfl
  go_wp2_with fail
  have hX1 := Lib.hid X.out.lt
  have C := s7_enc M.out T.out
  try unfold cdv at C
  refine C.mono ?_
  rintro e v2 ⟨g, c4, rest, rfl, hg, hBk, hc7, hb⟩
  clear C
  replace E : Hid (Below w.heap.size w v2) := E.out.trans (hb.mono E.out.size)
  replace M := Lib.hid (M.out.keep hb)
  replace T := Lib.hid (T.out.on hb)
  replace X := Lib.hid (X.out.below hb X.out.lt)
  replace R := Lib.hid ((R.out.below hb).more hb.size)
  clear hb
  have S := Lib.hid hBk
  have hgH := Lib.hid hg
  clear hBk hg
  clear p0 p1 p2
  have p0 := X.out.cell (j := 0) rfl
  have p1 := X.out.cell (j := 1) rfl
  have p2 := X.out.cell (j := 2) rfl
  go_wp2_with fail
  have C := s7_chk M.out
  try unfold cdv at C
  refine C.mono ?_
  rintro e v3 ⟨rfl, hb⟩
  clear C
  replace E : Hid (Below w.heap.size w v3) := E.out.trans (hb.mono E.out.size)
  replace M := Lib.hid (M.out.keep hb)
  replace T := Lib.hid (T.out.on hb)
  replace X := Lib.hid (X.out.below hb X.out.lt)
  replace R := Lib.hid ((R.out.below hb).more hb.size)
  replace S := Lib.hid (S.out.below hb S.out.lt)
  clear hb
  clear p0 p1 p2
  have p0 := X.out.cell (j := 0) rfl
  have p1 := X.out.cell (j := 1) rfl
  have p2 := X.out.cell (j := 2) rfl
  go_wp2_with fail
  have C := s7_pcs M.out
  try unfold cdv at C
  refine C.mono ?_
  rintro e v4 ⟨rfl, hb⟩
  clear C
  replace E : Hid (Below w.heap.size w v4) := E.out.trans (hb.mono E.out.size)
  replace M := Lib.hid (M.out.keep hb)
  replace T := Lib.hid (T.out.on hb)
  replace X := Lib.hid (X.out.below hb X.out.lt)
  replace R := Lib.hid ((R.out.below hb).more hb.size)
  replace S := Lib.hid (S.out.below hb S.out.lt)
  clear hb
  clear p0 p1 p2
  have p0 := X.out.cell (j := 0) rfl
  have p1 := X.out.cell (j := 1) rfl
  have p2 := X.out.cell (j := 2) rfl
  go_wp2_with fail
  have C := s7_size M.out
  try unfold cdv at C
  refine C.mono ?_
  rintro e v5 ⟨rfl, hb⟩
  clear C
  replace E : Hid (Below w.heap.size w v5) := E.out.trans (hb.mono E.out.size)
  replace M := Lib.hid (M.out.keep hb)
  replace T := Lib.hid (T.out.on hb)
  replace X := Lib.hid (X.out.below hb X.out.lt)
  replace R := Lib.hid ((R.out.below hb).more hb.size)
  replace S := Lib.hid (S.out.below hb S.out.lt)
  clear hb
  clear p0 p1 p2
  have p0 := X.out.cell (j := 0) rfl
  have p1 := X.out.cell (j := 1) rfl
  have p2 := X.out.cell (j := 2) rfl
  obtain ⟨ad4, y4, hA4, _, ce4, a4, cc4, rfl, _, _, _, hr4⟩ := R.out.at (i := 4) (m := [1, 1, 0, 0]) rfl
  obtain rfl := Option.some.inj hA4
  have ck4 : v5.cell? ⟨ad.block, ad.off + 4, none⟩ = some (.slice a4 4 cc4) := ce4
  clear ce4
  have cv4 : (convert 57 9 (.slice a4 4 cc4)).run Tryd.prog v5 = .ok (.string ⟨#[1, 1, 0, 0]⟩) v5 := run_bytes_bs (P := Tryd.prog) v5 57 9 5 Tryd.underlying57 Tryd.underlying5 Tryd.underlying9 cc4 hr4
  clear hr4
  obtain ⟨ad5, y5, hA5, _, ce5, a5, cc5, rfl, _, _, _, hr5⟩ := R.out.at (i := 5) (m := [0, 0, 1, 1]) rfl
  obtain rfl := Option.some.inj hA5
  have ck5 : v5.cell? ⟨ad.block, ad.off + 5, none⟩ = some (.slice a5 4 cc5) := ce5
  clear ce5
  have cv5 : (convert 57 9 (.slice a5 4 cc5)).run Tryd.prog v5 = .ok (.string ⟨#[0, 0, 1, 1]⟩) v5 := run_bytes_bs (P := Tryd.prog) v5 57 9 5 Tryd.underlying57 Tryd.underlying5 Tryd.underlying9 cc5 hr5
  clear hr5
  obtain ⟨ad6, y6, hA6, _, ce6, a6, cc6, rfl, _, _, _, hr6⟩ := R.out.at (i := 6) (m := [1, 2, 4, 8]) rfl
  obtain rfl := Option.some.inj hA6
  have ck6 : v5.cell? ⟨ad.block, ad.off + 6, none⟩ = some (.slice a6 4 cc6) := ce6
  clear ce6
  have cv6 : (convert 57 9 (.slice a6 4 cc6)).run Tryd.prog v5 = .ok (.string ⟨#[1, 2, 4, 8]⟩) v5 := run_bytes_bs (P := Tryd.prog) v5 57 9 5 Tryd.underlying57 Tryd.underlying5 Tryd.underlying9 cc6 hr6
  clear hr6
  have t3 : v5.cell? ⟨g, 3, none⟩ = some (.string ⟨#[7, 0]⟩) := S.out.cell (j := 3) rfl
  have t4 : v5.cell? ⟨g, 4, none⟩ = some (.string ⟨#[2, 6]⟩) := S.out.cell (j := 4) rfl
  have t5 : v5.cell? ⟨g, 5, none⟩ = some (.string ⟨#[2, 6]⟩) := S.out.cell (j := 5) rfl
  have t6 : v5.cell? ⟨g, 6, none⟩ = some (.string ⟨#[43, 18]⟩) := S.out.cell (j := 6) rfl
  go_wp2_with fail
  clear t3 t4 t5 t6 ck4 cv4 ck5 cv5 ck6 cv6
  have C := s7_rec (s := 124) M.out T.out true (by decide) ⟨fun _ => ex_124, fun _ => rfl⟩
  try unfold cdv at C
  refine C.mono ?_
  rintro e v6 ⟨rfl, hb⟩
  clear C
  replace E : Hid (Below w.heap.size w v6) := E.out.trans (hb.mono E.out.size)
  replace M := Lib.hid (M.out.keep hb)
  replace T := Lib.hid (T.out.on hb)
  replace X := Lib.hid (X.out.below hb X.out.lt)
  replace R := Lib.hid ((R.out.below hb).more hb.size)
  replace S := Lib.hid (S.out.below hb S.out.lt)
  clear hb
  clear p0 p1 p2
  have p0 := X.out.cell (j := 0) rfl
  have p1 := X.out.cell (j := 1) rfl
  have p2 := X.out.cell (j := 2) rfl
  go_wp2_with fail
  have C := s7_rec (s := 120) M.out T.out true (by decide) ⟨fun _ => ex_120, fun _ => rfl⟩
  try unfold cdv at C
  refine C.mono ?_
  rintro e v7 ⟨rfl, hb⟩
  clear C
  replace E : Hid (Below w.heap.size w v7) := E.out.trans (hb.mono E.out.size)
  replace M := Lib.hid (M.out.keep hb)
  replace T := Lib.hid (T.out.on hb)
  replace X := Lib.hid (X.out.below hb X.out.lt)
  replace R := Lib.hid ((R.out.below hb).more hb.size)
  replace S := Lib.hid (S.out.below hb S.out.lt)
  clear hb
  clear p0 p1 p2
  have p0 := X.out.cell (j := 0) rfl
  have p1 := X.out.cell (j := 1) rfl
  have p2 := X.out.cell (j := 2) rfl
  go_wp2_with fail
  have C := s7_rec (s := 60) M.out T.out false (by decide) ⟨fun h => (by cases h), fun h => absurd h ex_no⟩
  try unfold cdv at C
  refine C.mono ?_
  rintro e v8 ⟨rfl, hb⟩
  clear C
  replace E : Hid (Below w.heap.size w v8) := E.out.trans (hb.mono E.out.size)
  replace M := Lib.hid (M.out.keep hb)
  replace T := Lib.hid (T.out.on hb)
  replace X := Lib.hid (X.out.below hb X.out.lt)
  replace R := Lib.hid ((R.out.below hb).more hb.size)
  replace S := Lib.hid (S.out.below hb S.out.lt)
  clear hb
  clear p0 p1 p2
  have p0 := X.out.cell (j := 0) rfl
  have p1 := X.out.cell (j := 1) rfl
  have p2 := X.out.cell (j := 2) rfl
  go_wp2_with fail
  have C := s7_dist M.out T.out
  try unfold cdv at C
  refine C.mono ?_
  rintro e v9 ⟨rfl, hb⟩
  clear C
  replace E : Hid (Below w.heap.size w v9) := E.out.trans (hb.mono E.out.size)
  replace M := Lib.hid (M.out.keep hb)
  replace T := Lib.hid (T.out.on hb)
  replace X := Lib.hid (X.out.below hb X.out.lt)
  replace S := Lib.hid (S.out.below hb S.out.lt)
  clear hb
  clear R
  clear p0 p1 p2
  have p0 := X.out.cell (j := 0) rfl
  have p1 := X.out.cell (j := 1) rfl
  have p2 := X.out.cell (j := 2) rfl
  go_wp2_with fail
  have C := s7_dec1 M.out T.out S.out hc7
  try unfold cdv at C
  refine C.mono ?_
  rintro e v10 ⟨rfl, hb⟩
  clear C
  replace E : Hid (Below w.heap.size w v10) := E.out.trans (hb.mono E.out.size)
  replace M := Lib.hid (M.out.keep hb)
  replace T := Lib.hid (T.out.on hb)
  replace X := Lib.hid (X.out.below hb X.out.lt)
  replace S := Lib.hid (S.out.below hb S.out.lt)
  clear hb
  have hs7 : sv exD7 = .string ⟨#[1, 2, 3, 4, 5, 6, 7]⟩ := rfl
  rw [hs7]
  clear hs7
  clear p0 p1 p2
  have p0 := X.out.cell (j := 0) rfl
  have p1 := X.out.cell (j := 1) rfl
  have p2 := X.out.cell (j := 2) rfl
  go_wp2_with fail
  have C := s7_dec2 M.out T.out S.out hc7
  try unfold cdv at C
  refine C.mono ?_
  rintro e v11 ⟨⟨u2, rfl⟩, hb⟩
  clear C
  replace E : Hid (Below w.heap.size w v11) := E.out.trans (hb.mono E.out.size)
  replace M := Lib.hid (M.out.keep hb)
  replace T := Lib.hid (T.out.on hb)
  replace X := Lib.hid (X.out.below hb X.out.lt)
  replace S := Lib.hid (S.out.below hb S.out.lt)
  clear hb
  clear p0 p1 p2
  have hfit : Hid (5 + (Value.string ⟨#[2, 7]⟩).cells.size ≤ (exT.map sv ++ rest).length) := by show 5 + 1 ≤ _; rw [List.length_append]; show 5 + 1 ≤ 7 + _; omega
  have hgg : Hid (g1 < g) := Nat.lt_of_lt_of_le hX1.out hgH.out
  go_wp2_with (first | (refine wpList_blk_store rfl 9 _ _ rfl 5 (.string ⟨#[2, 7]⟩) rfl rfl S.out size_str hfit.out (one_str _) ?_; intro v12 hw ho; have S2 : Hid (Blk v12 g (exB.map sv ++ rest) 9) := hw.out; have E2 : Hid (Below w.heap.size w v12) := E.out.trans (ho.below (Nat.le_of_lt (Nat.lt_of_le_of_lt hwg.out hgg.out))); have M2 : Hid (CodM v12 g1 4 (some ⟨a, 0, none⟩) 2 2 1 exG) := ⟨M.out.m.below (ho.below (Nat.le_of_lt hgg.out)), Nat.le_of_lt (Nat.lt_trans hgg.out S2.out.lt), M.out.len, M.out.small, M.out.rng⟩; have T2 := Lib.hid (hT.out.on E2.out); have X2 := Lib.hid (X.out.only ho (Nat.ne_of_lt hgg.out)); have p0 := X2.out.cell (j := 0) rfl; have p1 := X2.out.cell (j := 1) rfl; have p2 := X2.out.cell (j := 2) rfl; clear hw ho S E M T X))
  have C := s7_dec3 M2.out T2.out S2.out hc7
  try unfold cdv at C
  refine C.mono ?_
  rintro e v13 ⟨⟨u3, rfl⟩, hb⟩
  have E3 : Hid (Below w.heap.size w v13) := E2.out.trans (hb.mono E2.out.size)
  clear C p0 p1 p2 hb
  go_wp2_with fail
  go_ret
  exact ⟨rfl, E3.out⟩
end Go.Proofs.YtcnljemnkhmfcaaDoor

namespace Go.Proofs.YtcnljemnkhmfcaaDoor
set_option linter.unusedVariables false
set_option linter.unusedSimpArgs false
open Go.RowKit

theorem sub_bit {s k j : Nat} (h : s.testBit k = true) : (s - 2 ^ k).testBit j = (s.testBit j && !decide (j = k)) ∧ 2 ^ k ≤ s := by
  have hk : s / 2 ^ k % 2 = 1 := by rw [Nat.testBit_eq_decide_div_mod_eq] at h; exact of_decide_eq_true h
  obtain ⟨u, hu⟩ : ∃ u, u = s / 2 ^ (k + 1) := ⟨_, rfl⟩
  obtain ⟨v, hv⟩ : ∃ v, v = s % 2 ^ k := ⟨_, rfl⟩
  have hp : 0 < 2 ^ k := Nat.two_pow_pos k
  have hvl : v < 2 ^ k := by rw [hv]; exact Nat.mod_lt _ hp
  have e1 : 2 ^ k * (s / 2 ^ k) + v = s := by rw [hv]; exact Nat.div_add_mod s (2 ^ k)
  have e2 : s / 2 ^ k = 2 * u + 1 := by
    have : u = s / 2 ^ k / 2 := by rw [hu, Nat.pow_succ, Nat.div_div_eq_div_mul]
    omega
  have e3 : s = 2 ^ (k + 1) * u + (2 ^ k + v) := by
    rw [← e1, e2, Nat.pow_succ, Nat.mul_add, Nat.mul_one, Nat.mul_assoc]; omega
  have e4 : s - 2 ^ k = 2 ^ (k + 1) * u + v := by omega
  have hp2 : 2 ^ (k + 1) = 2 ^ k + 2 ^ k := by rw [Nat.pow_succ]; omega
  refine ⟨?_, by omega⟩
  rw [e4, e3, Nat.testBit_two_pow_mul_add _ (by omega), Nat.testBit_two_pow_mul_add _ (by omega)]
  by_cases hj : j < k + 1
  · rw [if_pos hj, if_pos hj]
    by_cases e : j = k
    · subst e
      simp [Nat.testBit_lt_two_pow hvl]
    · rw [Nat.testBit_two_pow_add_gt (by omega)]
      simp [e]
  · rw [if_neg hj, if_neg hj]
    have : ¬ j = k := by omega
    simp [this]
theorem full_mono {D s s' cnt : Nat} {Gs : List (List Int)} (h : Full7 (pcL D Gs s' cnt) D) (hs : ∀ k, k < cnt → s'.testBit k = true → s.testBit k = true) : Full7 (pcL D Gs s cnt) D := fun x hx => h x fun r hr => by
  obtain ⟨k, h1, h2, rfl⟩ := pcL_mem.1 hr
  exact hx _ (pcL_mem.2 ⟨k, h1, hs k h1 h2, rfl⟩)
section
variable {D G : Nat} {Gs : List (List Int)} {d : List UInt8} {cnt s : Nat}
theorem rt_get {z k : Nat} (hk : k < cnt) : (encP D Gs (filP D z d) z cnt).getD k [] = pce D Gs (filP D z d) z k := by
  unfold encP
  rw [List.getD_eq_getElem?_getD, List.getElem?_map, List.getElem?_range hk]; rfl
theorem rt_has (z : Nat) : HasP D Gs s cnt z (encP D Gs (filP D z d) z cnt) (filP D z d) := fun k hk _ => (rt_get hk).symm
theorem rt_len (z : Nat) : (encP D Gs (filP D z d) z cnt).length = cnt := by simp [encP]
theorem fil_len {z : Nat} (h : d.length ≤ D * z) : (filP D z d).length = D * z := by unfold filP; rw [List.length_append, List.length_replicate]; omega
theorem rt_enc (h0 : chkE D Gs G = 0) (hl : d.length ≤ 200) : encE D G Gs d = 0 ∧ encT D G Gs d = encP D Gs (filP D (szP D d.length) d) (szP D d.length) (D + (Gs.length + G)) := by
  have h1 : encE D G Gs d = 0 := by unfold encE; rw [if_pos h0, if_neg (by omega)]
  refine ⟨h1, ?_⟩
  unfold encT
  rw [if_pos h1, Int.toNat_natCast, Int.toNat_natCast, Nat.add_assoc]
theorem rt_A {ps : List (List UInt8)} (h1 : D + (Gs.length + G) = cnt) (hl : d.length ≤ 200) (hs : s < 2 ^ cnt) (hp : ps.length = cnt) (hz : ∀ t, t < cnt → (ps.getD t []).length = szP D d.length) : DecA D (D + Gs.length + G) (d.length : Int) (s : Int) ps := by
  refine ⟨by omega, by omega, by omega, ?_, ?_⟩
  · rw [Nat.add_assoc, h1]
    have e : ((2 ^ cnt : Nat) : Int) = (2 : Int) ^ cnt := by rw [Int.natCast_pow]; rfl
    rw [← e]; omega
  · rw [Int.toNat_natCast, Int.toNat_natCast, Nat.add_assoc, h1]
    exact ⟨hp, fun t ht _ => hz t (by omega)⟩
theorem rt_dec {x : List UInt8} {E : Int} (h0 : chkE D Gs G = 0) (h1 : D + (Gs.length + G) = cnt) (hD : 1 ≤ D) (hl : d.length ≤ 200) (hs : s < 2 ^ cnt) (h : DecR D G Gs (d.length : Int) (s : Int) (encT D G Gs d) x E) :
    (Full7 (pcL D Gs s cnt) D → x = d ∧ E = 0) ∧ (¬ Full7 (pcL D Gs s cnt) D → x = [] ∧ E = 17) := by
  rw [(rt_enc h0 hl).2, h1] at h
  have hm := (szP_mul (n := d.length) hD).1
  have hA := rt_A (d := d) (s := s) (ps := encP D Gs (filP D (szP D d.length) d) (szP D d.length) cnt) h1 hl hs (rt_len _) (fun t ht => by rw [rt_get ht, pce_len])
  unfold DecR at h
  rw [Int.toNat_natCast, Int.toNat_natCast, Int.toNat_natCast, Int.toNat_natCast, h1] at h
  rcases h with ⟨h, _⟩ | ⟨_, h, _⟩ | ⟨_, _, h, h2, h3⟩ | ⟨_, _, hf, h⟩
  · exact absurd h0 h
  · exact absurd hA h
  · exact ⟨fun hf => absurd hf h, fun _ => ⟨h3, h2⟩⟩
  · refine ⟨fun _ => ?_, fun hn => absurd hf hn⟩
    rcases h with ⟨h1, h2, h3⟩ | ⟨_, _, h3⟩
    · have := has_uniq hf h3 (rt_has _) (fil_len (by rw [h2]; exact hm)) (fil_len hm)
      have e1 := fil_take h2 hm
      rw [this, fil_take rfl hm] at e1
      exact ⟨e1.symm, h1⟩
    · exact absurd (rt_has _) (h3 d rfl)
theorem rt_bad {k : Nat} {x y : List UInt8} {E : Int} (h0 : chkE D Gs G = 0) (h1 : D + (Gs.length + G) = cnt) (hD : 1 ≤ D) (hl : d.length ≤ 200) (hs : s < 2 ^ cnt) (hk : k < cnt) (hb : s.testBit k = true)
    (hy : y.length = szP D d.length) (hne : y ≠ (encT D G Gs d).getD k []) (hf : Full7 (pcL D Gs s cnt) D) (h : DecR D G Gs (d.length : Int) (s : Int) ((encT D G Gs d).set k y) x E) :
    (Full7 (pcL D Gs (s - 2 ^ k) cnt) D → E = 14) ∧ (E = 14 ∨ (E = 0 ∧ x ≠ d)) := by
  rw [(rt_enc h0 hl).2, h1] at h hne
  have hm := (szP_mul (n := d.length) hD).1
  obtain ⟨ps, hps⟩ : ∃ ps, ps = (encP D Gs (filP D (szP D d.length) d) (szP D d.length) cnt).set k y := ⟨_, rfl⟩
  have hpl : ps.length = cnt := by rw [hps, List.length_set]; exact rt_len _
  have hpk : ps.getD k [] = y := by rw [hps, List.getD_eq_getElem?_getD, List.getElem?_set, if_pos rfl, if_pos (by rw [rt_len]; exact hk)]; rfl
  have hpo : ∀ t, t < cnt → t ≠ k → ps.getD t [] = pce D Gs (filP D (szP D d.length) d) (szP D d.length) t := fun t ht hn => by
    rw [hps, List.getD_eq_getElem?_getD, List.getElem?_set, if_neg (Ne.symm hn), ← List.getD_eq_getElem?_getD]
    exact rt_get ht
  rw [← hps] at h
  have hA := rt_A (d := d) (s := s) (ps := ps) h1 hl hs hpl (fun t ht => by
    by_cases e : t = k
    · rw [e, hpk]; exact hy
    · rw [hpo t ht e, pce_len])
  have hno : ∀ y', y'.length = d.length → HasP D Gs s cnt (szP D d.length) ps (filP D (szP D d.length) y') → y' ≠ d := fun y' _ hh e => by
    subst e
    have := hh k hk hb
    rw [hpk] at this
    rw [rt_get hk] at hne
    exact hne this.symm
  unfold DecR at h
  rw [Int.toNat_natCast, Int.toNat_natCast, Int.toNat_natCast, Int.toNat_natCast, h1] at h
  rcases h with ⟨h, _⟩ | ⟨_, h, _⟩ | ⟨_, _, h, _⟩ | ⟨_, _, _, h⟩
  · exact absurd h0 h
  · exact absurd hA h
  · exact absurd hf h
  · rcases h with ⟨e0, h2, h3⟩ | ⟨h2, _⟩
    · refine ⟨fun hq => ?_, .inr ⟨e0, hno x h2 h3⟩⟩
      exfalso
      have hsub : ∀ j, j < cnt → (s - 2 ^ k).testBit j = true → s.testBit j = true ∧ j ≠ k := fun j _ hj => by
        rw [(sub_bit hb).1, Bool.and_eq_true] at hj
        exact ⟨hj.1, by simpa using hj.2⟩
      have hd : HasP D Gs (s - 2 ^ k) cnt (szP D d.length) ps (filP D (szP D d.length) d) := fun j hj hjb => (hpo j hj (hsub j hj hjb).2).symm
      have := has_uniq hq (h3.sub fun j hj hjb => (hsub j hj hjb).1) hd (fil_len (by rw [h2]; exact hm)) (fil_len hm)
      have e1 := fil_take h2 hm
      rw [this, fil_take rfl hm] at e1
      exact hno x h2 h3 e1.symm
    · exact ⟨fun _ => h2, .inl h2⟩
end
end Go.Proofs.YtcnljemnkhmfcaaDoor

namespace Go.Proofs.YtcnljemnkhmfcaaDoor
set_option linter.unusedVariables false
set_option linter.unusedSimpArgs false
open Go.RowKit

theorem pp_facts {N : Nat} (h : N ≤ 24) : ∃ PP : Nat, PP = 2 ^ N ∧ 0 < PP ∧ PP ≤ 16777216 ∧ wrap64 ((2 : Int) ^ N) = (PP : Int) ∧ IntKind.i64.wrap ((2 : Int) ^ N) = (PP : Int) := by
  obtain ⟨h1, h2⟩ := two_wrap h
  have e : (2 : Int) ^ N = ((2 ^ N : Nat) : Int) := by rw [Int.natCast_pow]; rfl
  have hp := Nat.two_pow_pos N
  refine ⟨2 ^ N, rfl, hp, h2, h1, ?_⟩
  rw [e]
  generalize 2 ^ N = q at h2 hp
  rw [IntKind.wrap_i64]; omega
theorem rem_facts (a P : Nat) (h : 0 < P) : ∃ s : Nat, s < P ∧ Int.tmod (a : Int) (P : Int) = (s : Int) ∧ ¬ (P : Int) = 0 :=
  ⟨a % P, Nat.mod_lt _ h, by rw [Int.natCast_emod, Int.tmod_eq_emod_of_nonneg (Int.natCast_nonneg a)], by omega⟩
theorem shr_bit {s k : Nat} (hs : s < 4294967296) : bits BinOp.and IntKind.i64 ((s : Int) / 2 ^ k) 1 = if s.testBit k = true then 1 else 0 := by
  have e : (s : Int) / 2 ^ k = ((s / 2 ^ k : Nat) : Int) := by rw [Int.natCast_ediv, Int.natCast_pow]; rfl
  have hl : s / 2 ^ k ≤ s := Nat.div_le_self _ _
  rw [e, show (1 : Int) = ((1 : Nat) : Int) from rfl, i64_and _ _ 1 (by omega) (by decide), Nat.and_one_is_mod, Nat.testBit_eq_decide_div_mod_eq]
  generalize s / 2 ^ k = q at hl
  by_cases h : q % 2 = 1
  · simp [h]
  · have : q % 2 = 0 := by omega
    simp [this]
theorem wrap_u32 {a : Nat} (h : a < 4294967296) : IntKind.i64.wrap (a : Int) = (a : Int) := by rw [IntKind.wrap_i64]; omega
theorem bs_inj7 {x y : List UInt8} (h : bs x = bs y) : x = y := by
  have := congrArg (fun b : ByteArray => b.data.toList) h
  simpa [bs] using this
theorem pos_szP {D n : Nat} (hD : 1 ≤ D) (hn : 0 < n) (hn2 : n ≤ 200) (hD2 : D ≤ 16) : 0 < szP D n ∧ szP D n ≤ 4112 := by
  obtain ⟨h1, h2⟩ := szP_mul (n := n) hD
  have h3 : 1 * szP D n ≤ D * szP D n := Nat.mul_le_mul_right _ hD
  refine ⟨?_, by omega⟩
  rcases Nat.eq_zero_or_pos (szP D n) with h | h
  · rw [h, Nat.mul_zero] at h1; omega
  · exact h
/-- A row of bytes with marks behind its end, as []byte(s) makes it. -/
def RowG (w : World) (g : Nat) (l : List UInt8) : Prop := ∃ r : List Value, w.heap[g]? = some (.cells (l.map bv ++ r).toArray 5 ((l.map bv ++ r).toArray.size, (l.map bv ++ r).toArray.size + 1))
theorem RowG.lt {w : World} {g : Nat} {l : List UInt8} (h : RowG w g l) : g < w.heap.size := by
  obtain ⟨r, h⟩ := h
  exact (Array.getElem?_eq_some_iff.1 h).1
theorem RowG.below {w w' : World} {g B : Nat} {l : List UInt8} (h : RowG w g l) (hb : Below B w w') (hg : g < B) : RowG w' g l := by
  obtain ⟨r, h⟩ := h
  exact ⟨r, (hb.block g hg).trans h⟩
theorem RowG.only {w w' : World} {g k : Nat} {l : List UInt8} (h : RowG w g l) (ho : Only k w w') (hg : g ≠ k) : RowG w' g l := by
  obtain ⟨r, h⟩ := h
  exact ⟨r, (ho.block g hg).trans h⟩
theorem RowG.cell {w : World} {g j : Nat} {l : List UInt8} {b : UInt8} (h : RowG w g l) (hj : l[j]? = some b) : w.cell? ⟨g, j, none⟩ = some (bv b) := by
  obtain ⟨r, h⟩ := h
  have hl := (List.getElem?_eq_some_iff.1 hj).1
  rw [cell_of_row w g j _ _ _ h, List.getElem?_toArray, List.getElem?_append_left (by rw [List.length_map]; exact hl), List.getElem?_map, hj]
  rfl
theorem RowG.rds {w : World} {g : Nat} {l : List UInt8} (h : RowG w g l) : Rds w w.heap.size (some ⟨g, 0, none⟩) (l.map bv) := fun _ => by
  refine ⟨_, rfl, h.lt, fun j u hu => ?_⟩
  rw [Addr.add_mid, Nat.zero_add]
  rw [List.getElem?_map] at hu
  obtain ⟨b, hb, rfl⟩ := Option.map_eq_some_iff.1 hu
  exact h.cell hb
theorem RowG.frozen {w : World} {g j : Nat} {l : List UInt8} (h : RowG w g l) (hj : j < l.length) : w.frozen? ⟨g, j, none⟩ = false := by
  obtain ⟨r, h⟩ := h
  simp [World.frozen?, h]
  omega
theorem RowG.set {w : World} {g j : Nat} {l : List UInt8} {b : UInt8} (h : RowG w g l) (hj : j < l.length) : RowG (w.setCell ⟨g, j, none⟩ (bv b)) g (l.set j b) := by
  obtain ⟨r, h⟩ := h
  obtain ⟨hlt, hk⟩ := Array.getElem?_eq_some_iff.1 h
  refine ⟨r, ?_⟩
  show (w.heap.modify g _)[g]? = _
  rw [Array.getElem?_eq_getElem (by rw [Array.size_modify]; exact hlt), Array.getElem_modify_self, hk]
  simp [List.map_set, hj]
theorem Only.set7 (w : World) (p : Addr) (v : Value) : Only p.block w (w.setCell p v) := ⟨rfl, rfl, rfl, by simp, fun k hk => Below.heap_setCell _ _ _ _ hk⟩
theorem wpList_bytes_row {ops : Array Oper} {rest : List Oper} {op : Oper} {a : Act} {w : World} {Q : Exit → Act → World → Prop} (hgd : op.guard = none) (x : Operand) (ho : op.op = .convert 9 57 x) (l : List UInt8) (S : ByteArray) (hS : S = bs l) (hx : a.eval x = .string S)
    (h : ∀ w' g c, RowG w' g l → g = w.heap.size → l.length ≤ c → Below w.heap.size w w' → wpList Tryd.prog ops Q rest (a.put op.dst (.slice (some ⟨g, 0, none⟩) l.length c)) w') :
    wpList Tryd.prog ops Q (op :: rest) a w := by
  subst hS
  refine wpList_plain hgd fun K hK => ?_
  have hrun := run_bytes_of_string (P := Tryd.prog) w 9 57 5 (bs l) Tryd.underlying9 Tryd.underlying57 Tryd.underlying5
  unfold Oper.wp execOp
  simp only [ho, hx, Sem.run_bind, Sem.run_pure, hrun, Result.andThen_ok]
  rw [bs_size]
  have e : (bs l).data.map (fun b => Value.int .u8 b.toNat) = (l.map bv).toArray := by
    unfold bs
    apply Array.ext'
    simp
    exact fun a _ => rfl
  have key : ∀ cap, ∃ r : List Value, bytesRow (bs l) cap = (l.map bv ++ r).toArray := fun cap => by
    refine ⟨(Array.replicate (cap - (bs l).size) (Value.int .u8 0)).toList, ?_⟩
    unfold bytesRow
    rw [e]
    apply Array.ext'
    simp
  obtain ⟨r, hr⟩ := key (grownCap w l.length 0 5)
  rw [hr]
  refine hK _ _ (h _ w.heap.size _ ⟨r, heap_alloc_new w.drew _⟩ rfl ?_ (((Below.refl _ _).drew).alloc (Nat.le_refl _) _))
  have := grownCap_ge w (bs l).size 0 5
  rw [bs_size] at this
  exact this
end Go.Proofs.YtcnljemnkhmfcaaDoor

namespace Go.Proofs.YtcnljemnkhmfcaaDoor
set_option linter.unusedVariables false
set_option linter.unusedSimpArgs false
open Go.RowKit

theorem m256 {a : Nat} : (a : Int) % 256 = 0 ↔ a % 256 = 0 := by omega
theorem wrap_u8 (a : Nat) : IntKind.u8.wrap (a : Int) = ((UInt8.ofNat a).toNat : Int) := by
  rw [IntKind.wrap_u8, UInt8.toNat_ofNat']; omega
theorem mod_u8 (a : Nat) : (a : Int) % 256 = ((UInt8.ofNat a).toNat : Int) := by
  rw [UInt8.toNat_ofNat']; omega
theorem of_ne8 {a : Nat} (h : ¬ a % 256 = 0) : UInt8.ofNat a ≠ 0 := fun hh => h (by
  have := congrArg UInt8.toNat hh
  rw [UInt8.toNat_ofNat'] at this
  exact this)
theorem xor_ne8 {u v e : UInt8} (h : u = v ^^^ e) (he : e ≠ 0) : u ≠ v := fun hh => he (by
  have h2 : v ^^^ (v ^^^ e) = v ^^^ v := by rw [← h, hh]
  rw [← UInt8.xor_assoc, UInt8.xor_self, UInt8.zero_xor] at h2
  exact h2)

theorem sub_facts {s q : Nat} (h : q ≤ s) (hs : s < 16777216) : wrap64 ((s : Int) - (q : Int)) = ((s - q : Nat) : Int) ∧ IntKind.i64.wrap ((s : Int) - (q : Int)) = ((s - q : Nat) : Int) := by
  have e : (s : Int) - (q : Int) = ((s - q : Nat) : Int) := by omega
  rw [e]
  generalize s - q = t at *
  have ht : (t : Int) ≤ s := by omega
  refine ⟨by unfold wrap64; omega, by rw [IntKind.wrap_i64]; omega⟩

set_option maxRecDepth 100000 in
set_option maxHeartbeats 16000000 in
theorem trips_walk (D : Int) (A : Option Addr) (n c : Nat) (G : Int) (Gs : List (List Int)) (d : List UInt8) (a1 a2 a3 a4 : Nat) (w : World) (hM : CodM w w.heap.size D A n c G Gs) (hd : d.length ≤ 140737488351232) (h1 : a1 < 4294967296) (h2 : a2 < 4294967296) (h3 : a3 < 4294967296) (h4 : a4 < 4294967296) (ht : PTab 0 w) :
    Calls Tryd.prog 6 #[cdv D A n c G, sv d, .agg #[.int .u32 a1, .int .u32 a2, .int .u32 a3, .int .u32 a4]] w fun e w' => e = .returned (.bool true) ∧ Below w.heap.size w w' := by
  have hdd := Lib.hid size_cod
  have hun : Hid (Tryd.prog.underlying 24 = _) := Tryd.underlying24
  obtain ⟨W1, hW1⟩ : ∃ W1, W1 = (w.alloc (.cells #[.int .i64 D, .slice A n c, .int .i64 G] 24)).alloc (.cells #[.int .u32 a1, .int .u32 a2, .int .u32 a3, .int .u32 a4] 56) := ⟨_, rfl⟩
  have E : Hid (Below w.heap.size w W1) := by show Below _ _ _; rw [hW1]; exact ((Below.refl _ _).alloc (Nat.le_refl _) _).alloc (by simp) _
  have X : Hid (Blk W1 w.heap.size [.int .i64 D, .slice A n c, .int .i64 G] 24) := by show Blk _ _ _ _; rw [hW1]; exact (Blk.new _ [_, _, _] _).alloc _
  have Y : Hid (Blk W1 (w.heap.size + 1) [.int .u32 a1, .int .u32 a2, .int .u32 a3, .int .u32 a4] 56) := by show Blk _ _ _ _; rw [hW1]; exact (Blk.new _ [_, _, _, _] _).at (by simp)
  have M := Lib.hid (hM.keep E.out)
  have T := Lib.hid (ht.on E.out)
  have HT := Lib.hid ht
  have hlen : Hid (n = Gs.length) := hM.len
  have hS : (bs d).size = d.length := bs_size d
  have hW' := Lib.hid hW1
  obtain ⟨m, hm⟩ : ∃ m, m = d.length := ⟨_, rfl⟩
  have hmH := Lib.hid hm
  rw [← hm] at hS hd
  obtain ⟨Ck, hCk⟩ : ∃ x, x = chkE D Gs G := ⟨_, rfl⟩
  have CC : Hid (∀ W, CodM W w.heap.size D A n c G Gs → Calls Tryd.prog 14 #[cdv D A n c G] W fun e w' => e = .returned (.int .i64 Ck) ∧ Below W.heap.size W w') := fun W m => by rw [hCk]; exact ccheck_any D G Gs n c A W m
  have hCkH := Lib.hid hCk
  obtain ⟨S, hSd⟩ : ∃ S, S = bs d := ⟨_, rfl⟩
  have hSH := Lib.hid hSd
  have hsv : sv d = .string S := by rw [hSd]; rfl
  rw [← hSd] at hS
  rw [hsv]
  have hsmall : n ≤ 140737488355328 := hM.small
  unfold cdv at CC ⊢
  clear hM ht hm hCk hSd hW1 hsv
  by_cases c1 : 20 < n
  · have t1 : (20 : Int) < (n : Int) := by omega
    clear c1
    go_enter Tryd.func6, Tryd.ntmps6
    go_wp2_with fail
    generalize hg : (w.alloc _).alloc _ = Wg
    have hgW : W1 = Wg := by rw [← hg, hW'.out]
    clear hg hW'
    subst hgW
    refine (sanity_any7 _ T.out).mono ?_
    rintro e wz ⟨rfl, hb⟩
    have Ez : Hid (Below w.heap.size w wz) := E.out.trans (hb.mono E.out.size)
    clear hb
    go_wp2_with fail
    go_ret
    exact ⟨rfl, Ez.out⟩
  have t1 : ¬ (20 : Int) < (n : Int) := by omega
  by_cases c2 : m = 0
  · subst c2
    have hS0 : (S.size : Int) = 0 := by omega
    clear c1
    go_enter Tryd.func6, Tryd.ntmps6
    go_wp2_with fail
    generalize hg : (w.alloc _).alloc _ = Wg
    have hgW : W1 = Wg := by rw [← hg, hW'.out]
    clear hg hW'
    subst hgW
    refine (sanity_any7 _ T.out).mono ?_
    rintro e wz ⟨rfl, hb⟩
    have Ez : Hid (Below w.heap.size w wz) := E.out.trans (hb.mono E.out.size)
    clear hb
    go_wp2_with fail
    go_ret
    exact ⟨rfl, Ez.out⟩
  have t2 : ¬ (m : Int) = 0 := by omega
  by_cases c3 : 200 < m
  · have t3 : (200 : Int) < (m : Int) := by omega
    clear c1 c2 c3
    go_enter Tryd.func6, Tryd.ntmps6
    go_wp2_with fail
    generalize hg : (w.alloc _).alloc _ = Wg
    have hgW : W1 = Wg := by rw [← hg, hW'.out]
    clear hg hW'
    subst hgW
    refine (sanity_any7 _ T.out).mono ?_
    rintro e wz ⟨rfl, hb⟩
    have Ez : Hid (Below w.heap.size w wz) := E.out.trans (hb.mono E.out.size)
    clear hb
    go_wp2_with fail
    go_ret
    exact ⟨rfl, Ez.out⟩
  have t3 : ¬ (200 : Int) < (m : Int) := by omega
  by_cases c4 : Ck = 0
  rotate_left
  · have t4 : (Ck != 0) = true := by simpa using c4
    clear c1 c2 c3 c4
    have p0 := X.out.cell (j := 0) rfl
    have p1 := X.out.cell (j := 1) rfl
    have p2 := X.out.cell (j := 2) rfl
    go_enter Tryd.func6, Tryd.ntmps6
    rw [hW'.out] at p0 p1 p2
    go_wp2_with fail
    generalize hg : (w.alloc _).alloc _ = Wg
    have hgW : W1 = Wg := by rw [← hg, hW'.out]
    clear hg hW'
    subst hgW
    have C := CC.out W1 M.out
    try unfold cdv at C
    refine C.mono ?_
    rintro e w2 ⟨rfl, hb⟩
    clear C
    clear p0 p1 p2
    replace E : Hid (Below w.heap.size w w2) := E.out.trans (hb.mono E.out.size)
    replace M := Lib.hid (M.out.keep hb)
    replace T := Lib.hid (T.out.on hb)
    replace X := Lib.hid (X.out.below hb X.out.lt)
    replace Y := Lib.hid (Y.out.below hb Y.out.lt)
    clear hb
    have p0 := X.out.cell (j := 0) rfl
    have p1 := X.out.cell (j := 1) rfl
    have p2 := X.out.cell (j := 2) rfl
    go_wp2_with fail
    refine (sanity_any7 _ T.out).mono ?_
    rintro e wz ⟨rfl, hb⟩
    have Ez : Hid (Below w.heap.size w wz) := E.out.trans (hb.mono E.out.size)
    clear hb
    go_wp2_with fail
    go_ret
    exact ⟨rfl, Ez.out⟩
  have t4 : (Ck != 0) = false := by simpa using c4
  have h0 : Hid (chkE D Gs G = 0) := hCkH.out.symm.trans c4
  obtain ⟨b1, b2, b3, b4, b5, b6⟩ := cchk_ok h0.out
  obtain ⟨d7, rfl⟩ : ∃ d7 : Nat, D = d7 := ⟨D.toNat, by omega⟩
  obtain ⟨g7, rfl⟩ : ∃ g7 : Nat, G = g7 := ⟨G.toNat, by omega⟩
  obtain ⟨N, hN⟩ : ∃ N, N = d7 + (Gs.length + g7) := ⟨_, rfl⟩
  have hNH : Hid (d7 + (Gs.length + g7) = N) := hN.symm
  have hD1 : Hid (1 ≤ d7) := by show 1 ≤ d7; omega
  have hD16 : Hid (d7 ≤ 16) := by show d7 ≤ 16; omega
  have hN24 : N ≤ 24 := by have := hlen.out; omega
  have hN1 : 1 ≤ N := by omega
  have hm200 : Hid (d.length ≤ 200) := by show _ ≤ _; rw [← hmH.out]; omega
  have hm0 : Hid (0 < d.length) := by show _ < _; rw [← hmH.out]; omega
  clear b1 b2 b3 b4 b5 b6 c1 c2 c3 c4 hN
  have p0 := X.out.cell (j := 0) rfl
  have p1 := X.out.cell (j := 1) rfl
  have p2 := X.out.cell (j := 2) rfl
  have y0 := Y.out.cell (j := 0) rfl
  have y1 := Y.out.cell (j := 1) rfl
  have y2 := Y.out.cell (j := 2) rfl
  have y3 := Y.out.cell (j := 3) rfl
  go_enter Tryd.func6, Tryd.ntmps6
  rw [hW'.out] at p0 p1 p2 y0 y1 y2 y3
  go_wp2_with fail
  generalize hg : (w.alloc _).alloc _ = Wg
  have hgW : W1 = Wg := by rw [← hg, hW'.out]
  clear hg hW'
  subst hgW
  have C := CC.out W1 M.out
  try unfold cdv at C
  refine C.mono ?_
  rintro e w3 ⟨rfl, hb⟩
  clear C
  clear p0 p1 p2 y0 y1 y2 y3
  replace E : Hid (Below w.heap.size w w3) := E.out.trans (hb.mono E.out.size)
  replace M := Lib.hid (M.out.keep hb)
  replace T := Lib.hid (T.out.on hb)
  replace X := Lib.hid (X.out.below hb X.out.lt)
  replace Y := Lib.hid (Y.out.below hb Y.out.lt)
  clear hb
  have p0 := X.out.cell (j := 0) rfl
  have p1 := X.out.cell (j := 1) rfl
  have p2 := X.out.cell (j := 2) rfl
  have y0 := Y.out.cell (j := 0) rfl
  have y1 := Y.out.cell (j := 1) rfl
  have y2 := Y.out.cell (j := 2) rfl
  have y3 := Y.out.cell (j := 3) rfl
  obtain ⟨TX, hTX⟩ : ∃ TX, TX = encT (d7 : Int) (g7 : Int) Gs d := ⟨_, rfl⟩
  have hTXH := Lib.hid hTX
  have hTl : Hid (TX.length = N) := by show _ = _; rw [hTX, (rt_enc h0.out hm200.out).2, rt_len, hNH.out]
  have CE : Hid (∀ W, CodM W w.heap.size (d7 : Int) A n c (g7 : Int) Gs → PTab 0 W → Calls Tryd.prog 12 #[cdv (d7 : Int) A n c (g7 : Int), .string S] W fun e w' => ∃ g cc rest, e = .returned (.tuple #[.slice (some ⟨g, 0, none⟩) N cc, .int .i64 0]) ∧ W.heap.size ≤ g ∧ Blk w' g (TX.map sv ++ rest) 9 ∧ N ≤ cc ∧ Below W.heap.size W w') := fun W hM hT => by
    have := encodeX_any (d7 : Int) (g7 : Int) Gs n c A d W hM hT (by have := hm200.out; omega)
    rw [(rt_enc h0.out hm200.out).1, ← hTX, show sv d = .string S by rw [hSH.out]; rfl] at this
    refine this.mono ?_
    rintro e w' ⟨v, rfl, hO, hb⟩
    obtain ⟨g, cc, rest, rfl, q1, q2, q3⟩ := ownS_blk hO (by rw [hTl.out]; exact hN1)
    rw [hTl.out] at q3 ⊢
    exact ⟨g, cc, rest, rfl, q1, q2, q3, hb⟩
  clear hTX
  go_wp2_with fail
  have hYl := Lib.hid Y.out.lt
  have C := CE.out w3 M.out T.out
  try unfold cdv at C
  refine C.mono ?_
  rintro e w4 ⟨g, cc, rest, rfl, hg, hBk, hcc, hb⟩
  clear C
  clear p0 p1 p2 y0 y1 y2 y3
  replace E : Hid (Below w.heap.size w w4) := E.out.trans (hb.mono E.out.size)
  replace M := Lib.hid (M.out.keep hb)
  replace T := Lib.hid (T.out.on hb)
  replace X := Lib.hid (X.out.below hb X.out.lt)
  replace Y := Lib.hid (Y.out.below hb Y.out.lt)
  clear hb
  have Z := Lib.hid hBk
  have hwg : Hid (w.heap.size + 1 < g) := Nat.lt_of_lt_of_le hYl.out hg
  clear hBk hg
  have p0 := X.out.cell (j := 0) rfl
  have p1 := X.out.cell (j := 1) rfl
  have p2 := X.out.cell (j := 2) rfl
  have y0 := Y.out.cell (j := 0) rfl
  have y1 := Y.out.cell (j := 1) rfl
  have y2 := Y.out.cell (j := 2) rfl
  have y3 := Y.out.cell (j := 3) rfl
  go_wp2_with fail
  have CPc : Hid (∀ W, CodM W w.heap.size (d7 : Int) A n c (g7 : Int) Gs → Calls Tryd.prog 15 #[cdv (d7 : Int) A n c (g7 : Int)] W fun e w' => e = .returned (.int .i64 (N : Int)) ∧ Below W.heap.size W w') := fun W hM => by
    have := pieces_any (d7 : Int) (g7 : Int) Gs n c A W hM
    rw [if_pos h0.out, show (d7 : Int) + Gs.length + g7 = (N : Int) by have := hNH.out; omega] at this
    exact this
  have tN1 : ¬ (N : Int) < 1 := by omega
  have C := CPc.out w4 M.out
  try unfold cdv at C
  refine C.mono ?_
  rintro e w5 ⟨rfl, hb⟩
  clear C
  clear p0 p1 p2 y0 y1 y2 y3
  replace E : Hid (Below w.heap.size w w5) := E.out.trans (hb.mono E.out.size)
  replace M := Lib.hid (M.out.keep hb)
  replace T := Lib.hid (T.out.on hb)
  replace X := Lib.hid (X.out.below hb X.out.lt)
  replace Y := Lib.hid (Y.out.below hb Y.out.lt)
  replace Z := Lib.hid (Z.out.below hb Z.out.lt)
  clear hb
  have p0 := X.out.cell (j := 0) rfl
  have p1 := X.out.cell (j := 1) rfl
  have p2 := X.out.cell (j := 2) rfl
  have y0 := Y.out.cell (j := 0) rfl
  have y1 := Y.out.cell (j := 1) rfl
  have y2 := Y.out.cell (j := 2) rfl
  have y3 := Y.out.cell (j := 3) rfl
  go_wp2_with fail
  obtain ⟨PP, hPP, hPpos, hP2, hP1, hPw⟩ := pp_facts hN24
  have hPPH := Lib.hid hPP
  obtain ⟨s, hsl, hrem, hPne⟩ := rem_facts a1 PP hPpos
  have hslH : Hid (s < 2 ^ N) := by show _ < _; rw [← hPP]; exact hsl
  clear hPP
  have v1 : ¬ (N : Int) < 0 := by omega
  have v0 : 0 ≤ (N : Int) := by omega
  have hmin : min N 64 = N := by omega
  have hw1 := wrap_u32 h1
  have hPn : ¬ PP = 0 := Nat.ne_of_gt hPpos
  refine wp_region_planM [] [(true, 0), (true, 1), (true, 2), (true, 3), (true, 4), (true, 5), (true, 6)] (by decide) (by kernel_rfl) (by kernel_rfl) (by decide) (by intro c a d v w h; cases d <;> exact h) ?_
  change wpPlanM _ _ _ _ _ _ w5.drew
  have hb : Below w5.heap.size w5 w5.drew := (Below.refl _ _).drew
  generalize hgd : w5.drew = w6 at hb ⊢
  clear p0 p1 p2 y0 y1 y2 y3
  replace E : Hid (Below w.heap.size w w6) := E.out.trans (hb.mono E.out.size)
  replace M := Lib.hid (M.out.keep hb)
  replace T := Lib.hid (T.out.on hb)
  replace X := Lib.hid (X.out.below hb X.out.lt)
  replace Y := Lib.hid (Y.out.below hb Y.out.lt)
  replace Z := Lib.hid (Z.out.below hb Z.out.lt)
  clear hb
  clear hgd
  have yq0 : ∀ q : ExtOf w6, q.world.cell? ⟨w.heap.size + 1, 0, none⟩ = some (.int .u32 a1) := fun q => (Blk.below Y.out q.ext Y.out.lt).cell (j := 0) rfl
  iterate 7 (refine wpPlanM_plain rfl (fun K hK => ?_); go_simp; refine hK _ ?_; clear hK K)
  refine wpPlanM_nil ?_
  clear yq0
  have p0 := X.out.cell (j := 0) rfl
  have p1 := X.out.cell (j := 1) rfl
  have p2 := X.out.cell (j := 2) rfl
  have y0 := Y.out.cell (j := 0) rfl
  have y1 := Y.out.cell (j := 1) rfl
  have y2 := Y.out.cell (j := 2) rfl
  have y3 := Y.out.cell (j := 3) rfl
  go_wp2_with fail
  have CD : Hid (∀ W TL, CodM W w.heap.size (d7 : Int) A n c (g7 : Int) Gs → PTab 0 W → Blk W g (TL.map sv ++ rest) 9 → TL.length = N → Calls Tryd.prog 22 #[cdv (d7 : Int) A n c (g7 : Int), .int .i64 (m : Int), .int .i64 (s : Int), .slice (some ⟨g, 0, none⟩) N cc] W fun e w' => ∃ x E, e = .returned (.tuple #[sv x, .int .i64 E]) ∧ DecR (d7 : Int) (g7 : Int) Gs (d.length : Int) (s : Int) TL x E ∧ Below W.heap.size W w') := fun W TL hM hT hB hl => by
    have hr : Rds W W.heap.size (some ⟨g, 0, none⟩) (TL.map sv) := by have := hB.rds 0 N; rw [List.drop_zero, List.take_append_of_le_length (by rw [List.length_map, hl]; exact Nat.le_refl _), List.take_of_length_le (by rw [List.length_map, hl]; exact Nat.le_refl _)] at this; exact this
    have := decode_any (d7 : Int) (g7 : Int) (m : Int) (s : Int) Gs n c A (some ⟨g, 0, none⟩) TL W hM hT hr (by rw [hl]; omega) (by rw [hl]; exact hcc)
    rw [hl] at this
    refine this.mono ?_
    rintro e w' ⟨x, E, rfl, h, hb⟩
    rw [hmH.out] at h
    exact ⟨x, E, rfl, h, hb⟩
  have CR : Hid (∀ W t b, t < 2 ^ N → (b = true ↔ Full7 (pcL d7 Gs t N) d7) → CodM W w.heap.size (d7 : Int) A n c (g7 : Int) Gs → PTab 0 W → Calls Tryd.prog 24 #[cdv (d7 : Int) A n c (g7 : Int), .int .i64 (t : Int)] W fun e w' => e = .returned (.bool b) ∧ Below W.heap.size W w') := fun W t b ht hb hM hT => by
    refine (recoverable_any (d7 : Int) (g7 : Int) (t : Int) Gs n c A W hM hT).mono ?_
    rintro e w' ⟨⟨b', rfl, hq⟩, h⟩
    have hR : RecP (d7 : Int) Gs (g7 : Int) (t : Int) ↔ Full7 (pcL d7 Gs t N) d7 := by
      have e2 : ((2 ^ N : Nat) : Int) = (2 : Int) ^ N := by rw [Int.natCast_pow]; rfl
      unfold RecP
      rw [Int.toNat_natCast, Int.toNat_natCast, Int.toNat_natCast, Nat.add_assoc, hNH.out, ← e2]
      exact ⟨fun h => h.2.2.2, fun h => ⟨h0.out, Int.natCast_nonneg t, Int.ofNat_lt.2 ht, h⟩⟩
    have : b' = b := by rw [Bool.eq_iff_iff, hq, hb, hR]
    rw [this]
    exact ⟨rfl, h⟩
  by_cases hf : Full7 (pcL d7 Gs s N) d7
  rotate_left
  · have hfH := Lib.hid hf
    clear hf
    have C := CD.out w6 TX M.out T.out Z.out hTl.out
    try unfold cdv at C
    refine C.mono ?_
    rintro e w7 ⟨x, Er, rfl, hDr, hb⟩
    clear C
    clear p0 p1 p2 y0 y1 y2 y3
    replace E : Hid (Below w.heap.size w w7) := E.out.trans (hb.mono E.out.size)
    replace M := Lib.hid (M.out.keep hb)
    replace T := Lib.hid (T.out.on hb)
    replace X := Lib.hid (X.out.below hb X.out.lt)
    replace Y := Lib.hid (Y.out.below hb Y.out.lt)
    replace Z := Lib.hid (Z.out.below hb Z.out.lt)
    clear hb
    obtain ⟨hx, hE⟩ := (rt_dec h0.out hNH.out hD1.out hm200.out hslH.out (by rw [hTXH.out] at hDr; exact hDr)).2 hfH.out
    subst hx
    subst hE
    clear hDr
    have e0 : sv [] = .string ⟨#[]⟩ := rfl
    rw [e0]
    clear e0
    have p0 := X.out.cell (j := 0) rfl
    have p1 := X.out.cell (j := 1) rfl
    have p2 := X.out.cell (j := 2) rfl
    have y0 := Y.out.cell (j := 0) rfl
    have y1 := Y.out.cell (j := 1) rfl
    have y2 := Y.out.cell (j := 2) rfl
    have y3 := Y.out.cell (j := 3) rfl
    go_wp2_with fail
    have C := CR.out w7 s false hslH.out ⟨fun h => (by cases h), fun h => absurd h hfH.out⟩ M.out T.out
    try unfold cdv at C
    refine C.mono ?_
    rintro e w8 ⟨rfl, hb⟩
    clear C
    clear p0 p1 p2 y0 y1 y2 y3
    replace E : Hid (Below w.heap.size w w8) := E.out.trans (hb.mono E.out.size)
    replace M := Lib.hid (M.out.keep hb)
    replace T := Lib.hid (T.out.on hb)
    replace X := Lib.hid (X.out.below hb X.out.lt)
    replace Y := Lib.hid (Y.out.below hb Y.out.lt)
    replace Z := Lib.hid (Z.out.below hb Z.out.lt)
    clear hb
    have p0 := X.out.cell (j := 0) rfl
    have p1 := X.out.cell (j := 1) rfl
    have p2 := X.out.cell (j := 2) rfl
    have y0 := Y.out.cell (j := 0) rfl
    have y1 := Y.out.cell (j := 1) rfl
    have y2 := Y.out.cell (j := 2) rfl
    have y3 := Y.out.cell (j := 3) rfl
    go_wp2_with fail
    refine (sanity_any7 _ T.out).mono ?_
    rintro e wz ⟨rfl, hb⟩
    have Ez : Hid (Below w.heap.size w wz) := E.out.trans (hb.mono E.out.size)
    clear hb
    go_wp2_with fail
    go_ret
    exact ⟨rfl, Ez.out⟩
  · have hfH := Lib.hid hf
    clear hf
    have C := CD.out w6 TX M.out T.out Z.out hTl.out
    try unfold cdv at C
    refine C.mono ?_
    rintro e w9 ⟨x, Er, rfl, hDr, hb⟩
    clear C
    clear p0 p1 p2 y0 y1 y2 y3
    replace E : Hid (Below w.heap.size w w9) := E.out.trans (hb.mono E.out.size)
    replace M := Lib.hid (M.out.keep hb)
    replace T := Lib.hid (T.out.on hb)
    replace X := Lib.hid (X.out.below hb X.out.lt)
    replace Y := Lib.hid (Y.out.below hb Y.out.lt)
    replace Z := Lib.hid (Z.out.below hb Z.out.lt)
    clear hb
    obtain ⟨hx, hE⟩ := (rt_dec h0.out hNH.out hD1.out hm200.out hslH.out (by rw [hTXH.out] at hDr; exact hDr)).1 hfH.out
    rw [hx, hE]
    clear hDr hx hE
    have e0 : sv d = .string S := by rw [hSH.out]; rfl
    rw [e0]
    clear e0
    have p0 := X.out.cell (j := 0) rfl
    have p1 := X.out.cell (j := 1) rfl
    have p2 := X.out.cell (j := 2) rfl
    have y0 := Y.out.cell (j := 0) rfl
    have y1 := Y.out.cell (j := 1) rfl
    have y2 := Y.out.cell (j := 2) rfl
    have y3 := Y.out.cell (j := 3) rfl
    go_wp2_with fail
    have hNn : ¬ N = 0 := Nat.ne_of_gt hN1
    obtain ⟨kk, hkl, hrem2, hNne⟩ := rem_facts a2 N hN1
    have hw2 := wrap_u32 h2
    have hkbit := shr_bit (s := s) (k := kk) (Nat.lt_of_lt_of_le hsl (Nat.le_trans hP2 (by decide)))
    cases hbit : s.testBit kk
    · rw [hbit] at hkbit
      have hk0 : bits BinOp.and IntKind.i64 ((s : Int) / 2 ^ kk) 1 = 0 := by rw [hkbit]; rfl
      clear hkbit hbit
      have C := CR.out w9 s true hslH.out ⟨fun _ => hfH.out, fun _ => rfl⟩ M.out T.out
      try unfold cdv at C
      refine C.mono ?_
      rintro e w10 ⟨rfl, hb⟩
      clear C
      clear p0 p1 p2 y0 y1 y2 y3
      replace E : Hid (Below w.heap.size w w10) := E.out.trans (hb.mono E.out.size)
      replace M := Lib.hid (M.out.keep hb)
      replace T := Lib.hid (T.out.on hb)
      replace X := Lib.hid (X.out.below hb X.out.lt)
      replace Y := Lib.hid (Y.out.below hb Y.out.lt)
      replace Z := Lib.hid (Z.out.below hb Z.out.lt)
      clear hb
      have p0 := X.out.cell (j := 0) rfl
      have p1 := X.out.cell (j := 1) rfl
      have p2 := X.out.cell (j := 2) rfl
      have y0 := Y.out.cell (j := 0) rfl
      have y1 := Y.out.cell (j := 1) rfl
      have y2 := Y.out.cell (j := 2) rfl
      have y3 := Y.out.cell (j := 3) rfl
      go_wp2_with fail
      refine (sanity_any7 _ T.out).mono ?_
      rintro e wz ⟨rfl, hb⟩
      have Ez : Hid (Below w.heap.size w wz) := E.out.trans (hb.mono E.out.size)
      clear hb
      go_wp2_with fail
      go_ret
      exact ⟨rfl, Ez.out⟩
    rw [hbit] at hkbit
    have hbitH := Lib.hid hbit
    have hk1 : bits BinOp.and IntKind.i64 ((s : Int) / 2 ^ kk) 1 = 1 := by rw [hkbit]; rfl
    clear hkbit hbit
    by_cases hz : a4 % 256 = 0
    · have hz1 : (a4 : Int) % 256 = 0 := m256.2 hz
      clear hz
      have C := CR.out w9 s true hslH.out ⟨fun _ => hfH.out, fun _ => rfl⟩ M.out T.out
      try unfold cdv at C
      refine C.mono ?_
      rintro e w11 ⟨rfl, hb⟩
      clear C
      clear p0 p1 p2 y0 y1 y2 y3
      replace E : Hid (Below w.heap.size w w11) := E.out.trans (hb.mono E.out.size)
      replace M := Lib.hid (M.out.keep hb)
      replace T := Lib.hid (T.out.on hb)
      replace X := Lib.hid (X.out.below hb X.out.lt)
      replace Y := Lib.hid (Y.out.below hb Y.out.lt)
      replace Z := Lib.hid (Z.out.below hb Z.out.lt)
      clear hb
      have p0 := X.out.cell (j := 0) rfl
      have p1 := X.out.cell (j := 1) rfl
      have p2 := X.out.cell (j := 2) rfl
      have y0 := Y.out.cell (j := 0) rfl
      have y1 := Y.out.cell (j := 1) rfl
      have y2 := Y.out.cell (j := 2) rfl
      have y3 := Y.out.cell (j := 3) rfl
      go_wp2_with fail
      refine (sanity_any7 _ T.out).mono ?_
      rintro e wz ⟨rfl, hb⟩
      have Ez : Hid (Below w.heap.size w wz) := E.out.trans (hb.mono E.out.size)
      clear hb
      go_wp2_with fail
      go_ret
      exact ⟨rfl, Ez.out⟩
    have hz1 : ¬ (a4 : Int) % 256 = 0 := fun h => hz (m256.1 h)
    obtain ⟨yl, hyl⟩ : ∃ y, y = TX.getD kk [] := ⟨_, rfl⟩
    have hylH := Lib.hid hyl
    have hTk : TX[kk]? = some yl := by rw [hyl, List.getD_eq_getElem?_getD, List.getElem?_eq_getElem (by rw [hTl.out]; exact hkl)]; rfl
    have hTkH := Lib.hid hTk
    obtain ⟨L, hL⟩ : ∃ L, L = yl.length := ⟨_, rfl⟩
    have hLH := Lib.hid hL
    have hLz : Hid (L = szP d7 d.length) := by show _ = _; rw [hL, hyl, hTXH.out, (rt_enc h0.out hm200.out).2, hNH.out, rt_get hkl, pce_len]
    have hL0 : 0 < L := by rw [hLz.out]; exact (pos_szP hD1.out hm0.out hm200.out hD16.out).1
    have hLs : L ≤ 4112 := by rw [hLz.out]; exact (pos_szP hD1.out hm0.out hm200.out hD16.out).2
    have hLn : ¬ (L : Int) = 0 := fun h => Nat.ne_of_gt hL0 (Int.ofNat_eq_zero.1 h)
    have hLn2 : ¬ L = 0 := Nat.ne_of_gt hL0
    obtain ⟨KS, hKS⟩ : ∃ K, K = bs yl := ⟨_, rfl⟩
    have hKSH := Lib.hid hKS
    have hkN : (kk : Int) < (N : Int) := Int.ofNat_lt.2 hkl
    have hk0 : 0 ≤ (kk : Int) := Int.natCast_nonneg kk
    clear hyl hTk hL hKS
    have C := CR.out w9 s true hslH.out ⟨fun _ => hfH.out, fun _ => rfl⟩ M.out T.out
    try unfold cdv at C
    refine C.mono ?_
    rintro e w10 ⟨rfl, hb⟩
    clear C
    clear p0 p1 p2 y0 y1 y2 y3
    replace E : Hid (Below w.heap.size w w10) := E.out.trans (hb.mono E.out.size)
    replace M := Lib.hid (M.out.keep hb)
    replace T := Lib.hid (T.out.on hb)
    replace X := Lib.hid (X.out.below hb X.out.lt)
    replace Y := Lib.hid (Y.out.below hb Y.out.lt)
    replace Z := Lib.hid (Z.out.below hb Z.out.lt)
    clear hb
    have p0 := X.out.cell (j := 0) rfl
    have p1 := X.out.cell (j := 1) rfl
    have p2 := X.out.cell (j := 2) rfl
    have y0 := Y.out.cell (j := 0) rfl
    have y1 := Y.out.cell (j := 1) rfl
    have y2 := Y.out.cell (j := 2) rfl
    have y3 := Y.out.cell (j := 3) rfl
    have tk : w10.cell? ⟨g, kk, none⟩ = some (.string KS) := Z.out.cell (j := kk) (by rw [hKSH.out, List.getElem?_append_left (by rw [List.length_map, hTl.out]; exact hkl), List.getElem?_map, hTkH.out]; rfl)
    obtain ⟨jj, hjl, hrem3, _⟩ := rem_facts a3 L hL0
    have hw3 := wrap_u32 h3
    have hjL : (jj : Int) < (L : Int) := Int.ofNat_lt.2 hjl
    have hj0 : 0 ≤ (jj : Int) := Int.natCast_nonneg jj
    go_wp2_with (first | (refine wpList_bytes_row rfl _ rfl yl KS hKSH.out rfl ?_; intro w11 g2 c2 hV hg2 hc2 hb11; have V := Lib.hid hV; have hg2H := Lib.hid hg2; have hb11H := Lib.hid hb11; have hc2H := Lib.hid hc2; rw [← hLH.out]; clear hV hg2 hb11 hc2))
    have hzH := Lib.hid hz
    clear hz hz1 hk1 tk
    clear p0 p1 p2 y0 y1 y2 y3
    obtain ⟨vb, hvb⟩ : ∃ vb, yl[jj]? = some vb := ⟨_, List.getElem?_eq_getElem (by rw [← hLH.out]; exact hjl)⟩
    have hvbH := Lib.hid hvb
    obtain ⟨e8, he8⟩ : ∃ e8, e8 = UInt8.ofNat a4 := ⟨_, rfl⟩
    have hwe : IntKind.u8.wrap (a4 : Int) = (e8.toNat : Int) := by rw [he8]; exact wrap_u8 a4
    have hwe2 : (a4 : Int) % 256 = (e8.toNat : Int) := by rw [he8]; exact mod_u8 a4
    obtain ⟨u8, hu8⟩ : ∃ u8, u8 = vb ^^^ e8 := ⟨_, rfl⟩
    have hxor : bits BinOp.xor IntKind.u8 (vb.toNat : Int) (e8.toNat : Int) = (u8.toNat : Int) := by rw [hu8]; exact u8_xor_bv vb e8
    have hne8 : Hid (u8 ≠ vb) := xor_ne8 hu8 (by rw [he8]; exact of_ne8 hzH.out)
    clear hvb he8 hu8
    refine wp_region_planM [14] [(true, 0), (true, 1), (true, 2), (true, 3), (true, 4), (true, 5), (true, 6), (true, 7), (true, 8), (true, 9), (true, 10), (true, 11), (true, 12), (true, 13), (false, 14)] (by decide) (by kernel_rfl) (by kernel_rfl) (by decide) (by intro c a d v w h; cases d <;> exact h) ?_
    change wpPlanM _ _ _ _ _ _ w11.drew
    have hb12 : Hid (Below w10.heap.size w10 w11.drew) := hb11H.out.drew
    have V2 : Hid (RowG w11.drew g2 yl) := V.out
    generalize hgd : w11.drew = w12 at hb12 V2 ⊢
    clear hgd V hb11H
    have Y12 := Lib.hid (Y.out.below hb12.out Y.out.lt)
    have yq2 : ∀ q : ExtOf w12, q.world.cell? ⟨w.heap.size + 1, 2, none⟩ = some (.int .u32 a3) := fun q => (Blk.below Y12.out q.ext Y12.out.lt).cell (j := 2) rfl
    have yq3 : ∀ q : ExtOf w12, q.world.cell? ⟨w.heap.size + 1, 3, none⟩ = some (.int .u32 a4) := fun q => (Blk.below Y12.out q.ext Y12.out.lt).cell (j := 3) rfl
    have vq : ∀ q : ExtOf w12, q.world.cell? ⟨g2, jj, none⟩ = some (.int .u8 (vb.toNat : Int)) := fun q => (RowG.below V2.out q.ext V2.out.lt).cell hvbH.out
    iterate 14 (refine wpPlanM_plain rfl (fun K hK => ?_); go_simp; refine hK _ ?_; clear hK K)
    clear yq2 yq3 vq hwe hwe2
    refine wpPlanM_call rfl (fun K hK => ?_)
    have cv0 : w12.cell? ⟨g2, jj, none⟩ = some (.int .u8 (vb.toNat : Int)) := V2.out.cell hvbH.out
    have fz0 : w12.frozen? ⟨g2, jj, none⟩ = false := V2.out.frozen (by rw [← hLH.out]; exact hjl)
    go_wp2_with fail
    refine planPostL_normal ⟨.inl (by simp), hK _ _ ?_⟩
    clear hK K
    refine wpPlanM_nil ?_
    have V3 : Hid (RowG (w12.setCell ⟨g2, jj, none⟩ (.int .u8 (u8.toNat : Int))) g2 (yl.set jj u8)) := V2.out.set (b := u8) (by rw [← hLH.out]; exact hjl)
    have hb13 : Hid (Below w10.heap.size w10 (w12.setCell ⟨g2, jj, none⟩ (.int .u8 (u8.toNat : Int)))) := hb12.out.trans ((Only.set7 w12 ⟨g2, jj, none⟩ _).below (Nat.le_of_eq hg2H.out.symm))
    generalize w12.setCell ⟨g2, jj, none⟩ (.int .u8 (u8.toNat : Int)) = w13 at V3 hb13 ⊢
    clear cv0 fz0 V2 hb12 Y12 hxor
    obtain ⟨yn, hyn⟩ : ∃ y, y = yl.set jj u8 := ⟨_, rfl⟩
    have hynH := Lib.hid hyn
    have hynl : yn.length = L := by rw [hyn, List.length_set, ← hLH.out]
    have hynlH := Lib.hid hynl
    obtain ⟨YS, hYS⟩ : ∃ y, y = bs yn := ⟨_, rfl⟩
    have hYSH := Lib.hid hYS
    rw [← hyn] at V3
    have cvs : (convert 57 9 (.slice (some ⟨g2, 0, none⟩) L c2)).run Tryd.prog w13 = .ok (.string YS) w13 := by have h := run_bytes_bs (P := Tryd.prog) w13 57 9 5 Tryd.underlying57 Tryd.underlying5 Tryd.underlying9 c2 V3.out.rds; rw [hynl, ← hYS] at h; exact h
    have Z13 := Lib.hid (Z.out.below hb13.out Z.out.lt)
    have hfit : Hid (kk + (Value.string YS).cells.size ≤ (TX.map sv ++ rest).length) := by show kk + 1 ≤ _; rw [List.length_append, List.length_map, hTl.out]; omega
    have hkT : Hid (kk < TX.length) := by show _ < _; rw [hTl.out]; exact hkl
    have hwle : Hid (w.heap.size ≤ w10.heap.size) := E.out.size
    clear hyn hynl hYS
    go_wp2_with (first | (refine wpList_blk_store rfl 9 _ _ rfl kk (.string YS) rfl rfl Z13.out size_str hfit.out (one_str _) ?_; intro w14 hw ho; have Z14 : Hid (Blk w14 g ((TX.set kk yn).map sv ++ rest) 9) := (by have h := hw.out; rw [hYSH.out, set_rowS hkT.out] at h; exact h); have hbw : Below w.heap.size w10 w14 := (hb13.out.mono hwle.out).trans (ho.below (Nat.le_of_lt (Nat.lt_of_succ_lt hwg.out))); have E14 := Lib.hid (E.out.trans hbw); have M14 : Hid (CodM w14 w.heap.size (d7 : Int) A n c (g7 : Int) Gs) := ⟨M.out.m.below hbw, Nat.le_trans M.out.le hbw.size, M.out.len, M.out.small, M.out.rng⟩; have T14 := Lib.hid (HT.out.on E14.out); have X14 := Lib.hid ((X.out.below hb13.out X.out.lt).only ho (Nat.ne_of_lt (Nat.lt_of_succ_lt hwg.out))); have p0 := X14.out.cell (j := 0) rfl; have p1 := X14.out.cell (j := 1) rfl; have p2 := X14.out.cell (j := 2) rfl; clear hbw hw ho Z13 Z E M T X Y cvs hb13 V3))
    have C := CD.out w14 (TX.set kk yn) M14.out T14.out Z14.out (by rw [List.length_set]; exact hTl.out)
    try unfold cdv at C
    refine C.mono ?_
    rintro e w15 ⟨x2, E2, rfl, hD2, hb⟩
    clear C p0 p1 p2
    have E := Lib.hid (E14.out.trans (hb.mono E14.out.size))
    have M := Lib.hid (M14.out.keep hb)
    have T := Lib.hid (T14.out.on hb)
    have X := Lib.hid (X14.out.below hb X14.out.lt)
    rw [hTXH.out] at hD2
    have hne : yn ≠ (encT (d7 : Int) (g7 : Int) Gs d).getD kk [] := fun h => by
      rw [← hTXH.out, ← hylH.out] at h
      have h2 : yn[jj]? = yl[jj]? := by rw [h]
      rw [hynH.out, List.getElem?_set_self (by rw [← hLH.out]; exact hjl), hvbH.out] at h2
      exact hne8.out (Option.some.inj h2)
    obtain ⟨r1, r2⟩ := rt_bad (k := kk) h0.out hNH.out hD1.out hm200.out hslH.out hkl hbitH.out (by rw [hynlH.out]; exact hLz.out) hne hfH.out hD2
    clear hD2 hne E14 M14 T14 X14 Z14 hb
    obtain ⟨QQ, hQQ, hQpos, hQ2, hQ1, hQw⟩ := pp_facts (N := kk) (Nat.le_trans (Nat.le_of_lt hkl) hN24)
    have hQs : QQ ≤ s := by rw [hQQ]; exact (sub_bit (j := 0) hbitH.out).2
    obtain ⟨hS1, hS2⟩ := sub_facts hQs (Nat.lt_of_lt_of_le hsl hP2)
    obtain ⟨tt, htt⟩ : ∃ t, t = s - QQ := ⟨_, rfl⟩
    rw [← htt] at hS1 hS2
    have httH : Hid (tt = s - 2 ^ kk) := by show _ = _; rw [htt, hQQ]
    have httl : Hid (tt < 2 ^ N) := Nat.lt_of_le_of_lt (by rw [htt]; exact Nat.sub_le _ _) hslH.out
    rw [← httH.out] at r1
    have hk24 : min kk 64 = kk := Nat.min_eq_left (Nat.le_trans (Nat.le_of_lt hkl) (Nat.le_trans hN24 (by decide)))
    have hkneg : ¬ (kk : Int) < 0 := by have := Int.natCast_nonneg kk; omega
    obtain ⟨XS, hXS⟩ : ∃ x, x = bs x2 := ⟨_, rfl⟩
    have hXSH := Lib.hid hXS
    rw [show sv x2 = .string XS by rw [hXS]; rfl]
    have hcs : (∃ b, (b = true ↔ Full7 (pcL d7 Gs tt N) d7) ∧ ((b = true ∧ E2 = 14) ∨ (b = false ∧ E2 = 14) ∨ (b = false ∧ E2 = 0 ∧ (XS.toList == S.toList) = false))) := by
      by_cases hq : Full7 (pcL d7 Gs tt N) d7
      · exact ⟨true, ⟨fun _ => hq, fun _ => rfl⟩, .inl ⟨rfl, r1 hq⟩⟩
      · refine ⟨false, ⟨fun h => (by cases h), fun h => absurd h hq⟩, .inr ?_⟩
        rcases r2 with h | ⟨h, h2⟩
        · exact .inl ⟨rfl, h⟩
        · exact .inr ⟨rfl, h, by rw [hXS, hSH.out, bs_toList, bs_toList]; simp [h2]⟩
    clear r1 r2 hQQ hQs htt hXS hQpos
    obtain ⟨bb, hbb, hcs⟩ := hcs
    have hbbH := Lib.hid hbb
    clear hbb
    rcases hcs with ⟨rfl, rfl⟩ | ⟨rfl, rfl⟩ | ⟨rfl, rfl, hxs⟩
    · skip
      have p0 := X.out.cell (j := 0) rfl
      have p1 := X.out.cell (j := 1) rfl
      have p2 := X.out.cell (j := 2) rfl
      go_wp2_with fail
      clear p0 p1 p2
      refine wp_region_planM [] [(true, 0), (true, 1), (true, 2), (true, 3), (true, 4), (false, 5)] (by decide) (by kernel_rfl) (by kernel_rfl) (by decide) (by intro c a d v w h; cases d <;> exact h) ?_
      change wpPlanM _ _ _ _ _ _ w15.drew
      have hb : Below w15.heap.size w15 w15.drew := (Below.refl _ _).drew
      generalize hgd : w15.drew = w16 at hb ⊢
      replace E : Hid (Below w.heap.size w w16) := E.out.trans (hb.mono E.out.size)
      replace M := Lib.hid (M.out.keep hb)
      replace T := Lib.hid (T.out.on hb)
      replace X := Lib.hid (X.out.below hb X.out.lt)
      clear hb hgd
      refine wpPlanM_runW rfl (by rfl) _ (fun q => load_run 24 _ rfl w.heap.size 0 rfl [.int .i64 d7, .slice A n c, .int .i64 g7] _ hun.out rfl hdd.out q.world ((Blk.below X.out q.ext X.out.lt).range 0 _ (take_all0 _))) ?_
      iterate 4 (refine wpPlanM_plain rfl (fun K hK => ?_); go_simp; refine hK _ ?_; clear hK K)
      refine wpPlanM_call rfl (fun K hK => ?_)
      go_wp2_with fail
      have C := CR.out w16 tt true httl.out ⟨fun _ => hbbH.out.1 (by first | rfl | trivial), fun _ => rfl⟩ M.out T.out
      try unfold cdv at C
      refine C.mono ?_
      rintro e w17 ⟨rfl, hb⟩
      clear C
      have hbp := Lib.hid hb
      replace E : Hid (Below w.heap.size w w17) := E.out.trans (hb.mono E.out.size)
      replace T := Lib.hid (T.out.on hb)
      clear hb
      go_wp2_with fail
      refine planPostL_normal ⟨.inr hbp.out, hK _ _ ?_⟩
      clear hK K hbp
      refine wpPlanM_nil ?_
      go_wp2_with fail
      refine (sanity_any7 _ T.out).mono ?_
      rintro e wz ⟨rfl, hb⟩
      have Ez : Hid (Below w.heap.size w wz) := E.out.trans (hb.mono E.out.size)
      clear hb
      go_wp2_with fail
      go_ret
      exact ⟨rfl, Ez.out⟩
    · skip
      have p0 := X.out.cell (j := 0) rfl
      have p1 := X.out.cell (j := 1) rfl
      have p2 := X.out.cell (j := 2) rfl
      go_wp2_with fail
      clear p0 p1 p2
      refine wp_region_planM [] [(true, 0), (true, 1), (true, 2), (true, 3), (true, 4), (false, 5)] (by decide) (by kernel_rfl) (by kernel_rfl) (by decide) (by intro c a d v w h; cases d <;> exact h) ?_
      change wpPlanM _ _ _ _ _ _ w15.drew
      have hb : Below w15.heap.size w15 w15.drew := (Below.refl _ _).drew
      generalize hgd : w15.drew = w16 at hb ⊢
      replace E : Hid (Below w.heap.size w w16) := E.out.trans (hb.mono E.out.size)
      replace M := Lib.hid (M.out.keep hb)
      replace T := Lib.hid (T.out.on hb)
      replace X := Lib.hid (X.out.below hb X.out.lt)
      clear hb hgd
      refine wpPlanM_runW rfl (by rfl) _ (fun q => load_run 24 _ rfl w.heap.size 0 rfl [.int .i64 d7, .slice A n c, .int .i64 g7] _ hun.out rfl hdd.out q.world ((Blk.below X.out q.ext X.out.lt).range 0 _ (take_all0 _))) ?_
      iterate 4 (refine wpPlanM_plain rfl (fun K hK => ?_); go_simp; refine hK _ ?_; clear hK K)
      refine wpPlanM_call rfl (fun K hK => ?_)
      go_wp2_with fail
      have C := CR.out w16 tt _ httl.out hbbH.out M.out T.out
      try unfold cdv at C
      refine C.mono ?_
      rintro e w17 ⟨rfl, hb⟩
      clear C
      have hbp := Lib.hid hb
      replace E : Hid (Below w.heap.size w w17) := E.out.trans (hb.mono E.out.size)
      replace T := Lib.hid (T.out.on hb)
      clear hb
      go_wp2_with fail
      refine planPostL_normal ⟨.inr hbp.out, hK _ _ ?_⟩
      clear hK K hbp
      refine wpPlanM_nil ?_
      go_wp2_with fail
      refine (sanity_any7 _ T.out).mono ?_
      rintro e wz ⟨rfl, hb⟩
      have Ez : Hid (Below w.heap.size w wz) := E.out.trans (hb.mono E.out.size)
      clear hb
      go_wp2_with fail
      go_ret
      exact ⟨rfl, Ez.out⟩
    · skip
      have p0 := X.out.cell (j := 0) rfl
      have p1 := X.out.cell (j := 1) rfl
      have p2 := X.out.cell (j := 2) rfl
      go_wp2_with fail
      clear p0 p1 p2
      refine wp_region_planM [] [(true, 0), (true, 1), (true, 2), (true, 3), (true, 4), (false, 5)] (by decide) (by kernel_rfl) (by kernel_rfl) (by decide) (by intro c a d v w h; cases d <;> exact h) ?_
      change wpPlanM _ _ _ _ _ _ w15.drew
      have hb : Below w15.heap.size w15 w15.drew := (Below.refl _ _).drew
      generalize hgd : w15.drew = w16 at hb ⊢
      replace E : Hid (Below w.heap.size w w16) := E.out.trans (hb.mono E.out.size)
      replace M := Lib.hid (M.out.keep hb)
      replace T := Lib.hid (T.out.on hb)
      replace X := Lib.hid (X.out.below hb X.out.lt)
      clear hb hgd
      refine wpPlanM_runW rfl (by rfl) _ (fun q => load_run 24 _ rfl w.heap.size 0 rfl [.int .i64 d7, .slice A n c, .int .i64 g7] _ hun.out rfl hdd.out q.world ((Blk.below X.out q.ext X.out.lt).range 0 _ (take_all0 _))) ?_
      iterate 4 (refine wpPlanM_plain rfl (fun K hK => ?_); go_simp; refine hK _ ?_; clear hK K)
      refine wpPlanM_call rfl (fun K hK => ?_)
      go_wp2_with fail
      have C := CR.out w16 tt _ httl.out hbbH.out M.out T.out
      try unfold cdv at C
      refine C.mono ?_
      rintro e w17 ⟨rfl, hb⟩
      clear C
      have hbp := Lib.hid hb
      replace E : Hid (Below w.heap.size w w17) := E.out.trans (hb.mono E.out.size)
      replace T := Lib.hid (T.out.on hb)
      clear hb
      go_wp2_with fail
      refine planPostL_normal ⟨.inr hbp.out, hK _ _ ?_⟩
      clear hK K hbp
      refine wpPlanM_nil ?_
      go_wp2_with fail
      refine (sanity_any7 _ T.out).mono ?_
      rintro e wz ⟨rfl, hb⟩
      have Ez : Hid (Below w.heap.size w wz) := E.out.trans (hb.mono E.out.size)
      clear hb
      go_wp2_with fail
      go_ret
      exact ⟨rfl, Ez.out⟩
end Go.Proofs.YtcnljemnkhmfcaaDoor
