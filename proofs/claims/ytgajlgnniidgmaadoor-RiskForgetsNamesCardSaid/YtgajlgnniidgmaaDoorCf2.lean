/-
  Stage 7: the maths of the reference's Check: a group by itself, and groups that came before. Stage 7: contracts of the reference's group, Check, Pieces, Size, IsSet. (Written by tools/gencfc.py.). Stage 7: contracts of the reference's Check, Pieces, Size, IsSet. Stage 7: the contract of the reference's Rank. (Written by tools/gencfe.py.). Stage 7: contracts of the reference's IsSet and Recoverable.
-/
import Derived.Test.YtgajlgnniidgmaaDoorCe2
import Derived.Test.YtgajlgnniidgmaaDoorCd2
import Derived.Test.YtgajlgnniidgmaaDoorCe1
import Derived.Test.YtgajlgnniidgmaaDoorMrcd
namespace Go.Proofs.YtgajlgnniidgmaaDoor
set_option linter.unusedVariables false
set_option linter.unusedSimpArgs false
open Go.RowKit

theorem or_bitb {u i j : Nat} : (u ||| 1 <<< i).testBit j = (u.testBit j || decide (i = j)) := by
  rw [Nat.testBit_or, Nat.one_shiftLeft, Nat.testBit_two_pow]
/-- A member is in a group that came before. -/
def InB (Gs : List (List Int)) (k : Nat) (i : Int) : Prop := ∃ h, h < k ∧ ∃ g, Gs[h]? = some g ∧ i ∈ g
/-- What is wrong with a member, but for groups that came before. -/
def BadO (D : Nat) (g : List Int) (t : Nat) (i : Int) : Prop := i < 0 ∨ (D : Int) ≤ i ∨ 0 < t ∧ i ≤ g.getD (t - 1) 0
def BadG (D : Nat) (Gs : List (List Int)) (k : Nat) (g : List Int) : Prop := ∃ t i, g[t]? = some i ∧ (BadO D g t i ∨ InB Gs k i)
open Classical in
/-- The error of a group. -/
noncomputable def grpR (D : Nat) (Gs : List (List Int)) (k : Nat) (g : List Int) : Int := if g = [] then 8 else if BadG D Gs k g then 1 else 0

theorem grp1_bits {D : Nat} : ∀ (g : List Int) (used : Nat) (last : Int) {u : Nat}, grp1 D used last g = some u → -1 ≤ last → ∀ i : Nat, u.testBit i = true ↔ used.testBit i = true ∨ (i : Int) ∈ g
  | [], used, last, u, h, _, i => by
    unfold grp1 at h
    obtain rfl := Option.some.inj h
    simp
  | j :: g, used, last, u, h, hl, i => by
    unfold grp1 at h
    by_cases c : j ≤ last ∨ j ≥ (D : Int) ∨ used.testBit j.toNat = true
    · rw [if_pos c] at h; cases h
    · rw [if_neg c] at h
      have hj : ¬ j ≤ last := fun hh => c (.inl hh)
      rw [grp1_bits g _ _ h (by omega) i, or_bitb, Bool.or_eq_true, decide_eq_true_iff, List.mem_cons]
      constructor
      · rintro ((h | h) | h)
        · exact .inl h
        · exact .inr (.inl (by omega))
        · exact .inr (.inr h)
      · rintro (h | h | h)
        · exact .inl (.inl h)
        · exact .inl (.inr (by omega))
        · exact .inr h
/-- A group is refused where a member is. -/
theorem grp1_none {D base : Nat} : ∀ (g : List Int) (used : Nat) (last : Int), -1 ≤ last → (∀ i : Nat, used.testBit i = true → base.testBit i = true ∨ (i : Int) ≤ last) → (∀ i, base.testBit i = true → used.testBit i = true) →
    (grp1 D used last g = none ↔ ∃ t i, g[t]? = some i ∧ (i ≤ (if t = 0 then last else g.getD (t - 1) 0) ∨ (D : Int) ≤ i ∨ base.testBit i.toNat = true))
  | [], used, last, hl, hu, hb => by
    unfold grp1
    constructor
    · intro h; cases h
    · rintro ⟨t, i, h, _⟩; cases t <;> cases h
  | j :: g, used, last, hl, hu, hb => by
    unfold grp1
    by_cases c : j ≤ last ∨ j ≥ (D : Int) ∨ used.testBit j.toNat = true
    · rw [if_pos c]
      refine ⟨fun _ => ⟨0, j, rfl, ?_⟩, fun _ => rfl⟩
      rw [if_pos rfl]
      rcases c with c | c | c
      · exact .inl c
      · exact .inr (.inl c)
      · by_cases hj : j ≤ last
        · exact .inl hj
        · rcases hu _ c with h | h
          · exact .inr (.inr h)
          · omega
    · rw [if_neg c]
      have hj : ¬ j ≤ last ∧ ¬ j ≥ (D : Int) ∧ ¬ used.testBit j.toNat = true := ⟨fun h => c (.inl h), fun h => c (.inr (.inl h)), fun h => c (.inr (.inr h))⟩
      rw [grp1_none g (used ||| 1 <<< j.toNat) j (by omega) (fun i hi => by
        rw [or_bitb, Bool.or_eq_true, decide_eq_true_iff] at hi
        rcases hi with hi | hi
        · rcases hu i hi with h | h
          · exact .inl h
          · exact .inr (by omega)
        · exact .inr (by omega)) (fun i hi => by rw [or_bitb, hb i hi]; rfl)]
      constructor
      · rintro ⟨t, i, h1, h2⟩
        refine ⟨t + 1, i, h1, ?_⟩
        rw [if_neg (by omega), show t + 1 - 1 = t by omega]
        rcases h2 with h2 | h2
        · left
          by_cases ht : t = 0
          · subst ht; rw [if_pos rfl] at h2; exact h2
          · rw [if_neg ht] at h2
            obtain ⟨t', rfl⟩ : ∃ t', t = t' + 1 := ⟨t - 1, by omega⟩
            exact h2
        · exact .inr h2
      · rintro ⟨t, i, h1, h2⟩
        cases t with
        | zero =>
          exfalso
          obtain rfl := Option.some.inj h1
          rw [if_pos rfl] at h2
          rcases h2 with h2 | h2 | h2
          · exact hj.1 h2
          · exact hj.2.1 h2
          · exact hj.2.2 (hb _ h2)
        | succ t =>
          refine ⟨t, i, h1, ?_⟩
          rw [if_neg (by omega), show t + 1 - 1 = t by omega] at h2
          rcases h2 with h2 | h2
          · left
            by_cases ht : t = 0
            · subst ht; rw [if_pos rfl]; exact h2
            · rw [if_neg ht]
              obtain ⟨t', rfl⟩ : ∃ t', t = t' + 1 := ⟨t - 1, by omega⟩
              exact h2
          · exact .inr h2
/-- Bits and groups that came before say the same. -/
def SameB (us : Nat) (Gs : List (List Int)) (k : Nat) : Prop := ∀ i : Nat, us.testBit i = true ↔ InB Gs k i
theorem bad_iff {D k us : Nat} {Gs : List (List Int)} {g : List Int} (hs : SameB us Gs k) : grp1 D us (-1) g = none ↔ BadG D Gs k g := by
  rw [grp1_none (base := us) g us (-1) (by omega) (fun i hi => .inl hi) (fun i hi => hi)]
  -- the first member that is refused counts
  constructor
  · intro h
    apply Classical.byContradiction
    intro hn
    obtain ⟨t, i, h1, h2⟩ := h
    have hpos : 0 ≤ i := Int.not_lt.1 fun hh => hn ⟨t, i, h1, .inl (.inl hh)⟩
    rcases h2 with h2 | h2 | h2
    · by_cases ht : t = 0
      · rw [if_pos ht] at h2; omega
      · rw [if_neg ht] at h2
        exact hn ⟨t, i, h1, .inl (.inr (.inr ⟨by omega, h2⟩))⟩
    · exact hn ⟨t, i, h1, .inl (.inr (.inl h2))⟩
    · have := (hs i.toNat).1 h2
      rw [show ((i.toNat : Nat) : Int) = i by omega] at this
      exact hn ⟨t, i, h1, .inr this⟩
  · intro h
    apply Classical.byContradiction
    intro hn
    have hpos : ∀ (t : Nat) (i : Int), g[t]? = some i → 0 ≤ i := fun t => by
      induction t with
      | zero => intro i hi; exact Int.not_lt.1 fun hh => hn ⟨0, i, hi, .inl (by rw [if_pos rfl]; omega)⟩
      | succ t ih =>
        intro i hi
        have hl := (List.getElem?_eq_some_iff.1 hi).1
        have e : g[t]? = some (g[t]'(by omega)) := List.getElem?_eq_getElem _
        have := ih _ e
        refine Int.not_lt.1 fun hh => hn ⟨t + 1, i, hi, .inl ?_⟩
        rw [if_neg (by omega), show t + 1 - 1 = t by omega, List.getD_eq_getElem?_getD, e]
        show i ≤ g[t]
        omega
    obtain ⟨t, i, h1, h2⟩ := h
    have h0 := hpos t i h1
    rcases h2 with (h2 | h2 | ⟨h2, h3⟩) | h2
    · omega
    · exact hn ⟨t, i, h1, .inr (.inl h2)⟩
    · exact hn ⟨t, i, h1, .inl (by rw [if_neg (by omega)]; exact h3)⟩
    · exact hn ⟨t, i, h1, .inr (.inr ((hs i.toNat).2 (by rw [show ((i.toNat : Nat) : Int) = i by omega]; exact h2)))⟩
theorem grpE_cons (D us : Nat) (g : List Int) (Gs : List (List Int)) : grpE D us (g :: Gs) = if g = [] then 8 else match grp1 D us (-1) g with | none => 1 | some u => grpE D u Gs := by rw [grpE]; cases grp1 D us (-1) g <;> rfl
theorem sameB_zero (Gs : List (List Int)) : SameB 0 Gs 0 := fun i => by
  rw [Nat.zero_testBit]
  constructor
  · intro h; cases h
  · rintro ⟨h, hh, _⟩; omega
/-- One group more: its error ends the search, or the next ones decide. -/
theorem grpE_next {D k us : Nat} {Gs : List (List Int)} {g : List Int} (hs : SameB us Gs k) (hg : Gs[k]? = some g) :
    (grpR D Gs k g ≠ 0 → grpE D us (Gs.drop k) = grpR D Gs k g) ∧ (grpR D Gs k g = 0 → ∃ u, SameB u Gs (k + 1) ∧ grpE D us (Gs.drop k) = grpE D u (Gs.drop (k + 1))) := by
  have hl := (List.getElem?_eq_some_iff.1 hg).1
  have hd : Gs.drop k = g :: Gs.drop (k + 1) := by
    rw [List.drop_eq_getElem_cons hl]
    congr 1
    exact (List.getElem?_eq_some_iff.1 hg).2
  rw [hd, grpE_cons]
  unfold grpR
  by_cases c : g = []
  · rw [if_pos c, if_pos c]
    exact ⟨fun _ => rfl, fun h => absurd h (by decide)⟩
  · rw [if_neg c, if_neg c]
    cases e : grp1 D us (-1) g with
    | none =>
      rw [if_pos ((bad_iff hs).1 e)]
      exact ⟨fun _ => rfl, fun h => absurd h (by decide)⟩
    | some u =>
      rw [if_neg (fun hb => by rw [(bad_iff hs).2 hb] at e; cases e)]
      refine ⟨fun h => absurd rfl h, fun _ => ⟨u, fun i => ?_, rfl⟩⟩
      rw [grp1_bits g us (-1) e (by omega) i, hs i]
      constructor
      · rintro (⟨h, h1, g', h2, h3⟩ | h)
        · exact ⟨h, by omega, g', h2, h3⟩
        · exact ⟨k, by omega, g, hg, h⟩
      · rintro ⟨h, h1, g', h2, h3⟩
        by_cases hk : h = k
        · subst hk
          rw [hg] at h2
          obtain rfl := Option.some.inj h2
          exact .inr h3
        · exact .inl ⟨h, by omega, g', h2, h3⟩
theorem grpE_end {D us k : Nat} {Gs : List (List Int)} (h : Gs.length ≤ k) : grpE D us (Gs.drop k) = 0 := by rw [List.drop_eq_nil_of_le h]; rfl
end Go.Proofs.YtgajlgnniidgmaaDoor

namespace Go.Proofs.YtgajlgnniidgmaaDoor
set_option linter.unusedVariables false
set_option linter.unusedSimpArgs false
open Go.RowKit

/-- No member so far is refused. -/
def OkTo (d : Nat) (Gs : List (List Int)) (k : Nat) (gr : List Int) (t : Nat) : Prop := ∀ t' i, t' < t → gr[t']? = some i → ¬ (BadO d gr t' i ∨ InB Gs k i)
/-- No group so far has it. -/
def NotTo (Gs : List (List Int)) (i : Int) (h : Nat) : Prop := ∀ h', h' < h → ∀ g, Gs[h']? = some g → i ∉ g
set_option maxRecDepth 100000 in
set_option maxHeartbeats 8000000 in
theorem refGroup7_any {B : Nat} (d k : Nat) (G : Int) (Gs : List (List Int)) (gr : List Int) (n c : Nat) (A : Option Addr) (w : World) (hM : CodM w B (d : Int) A n c G Gs) (hk : Gs[k]? = some gr) (hd : d ≤ 16) (hsh : ∀ g ∈ Gs, g.length ≤ 1000000) :
    Calls Tryd.prog 48 #[cdv (d : Int) A n c G, .int .i64 (k : Int)] w fun e w' => e = .returned (.int .i64 (grpR d Gs k gr)) ∧ Below w.heap.size w w' := by
  obtain ⟨W1, hW1⟩ : ∃ W1, W1 = w.alloc (.cells #[.int .i64 (d : Int), .slice A n c, .int .i64 G] 24) := ⟨_, rfl⟩
  have hB1 : Hid (Below w.heap.size w W1) := by show Below _ _ _; rw [hW1]; exact (Below.refl _ _).alloc (Nat.le_refl _) _
  have hR1 : Hid (Blk W1 w.heap.size [.int .i64 (d : Int), .slice A n c, .int .i64 G] 24) := by show Blk _ _ _ _; rw [hW1]; exact Blk.new _ [_, _, _] _
  have hM' := Lib.hid (hM.keep hB1.out)
  have hsmall := hM.small
  have hsh2 := Lib.hid hsh
  clear hsh
  have hnk : k < n := by rw [hM.len]; exact (List.getElem?_eq_some_iff.1 hk).1
  have p0 := hR1.out.cell (j := 0) rfl
  have p1 := hR1.out.cell (j := 1) rfl
  have p2 := hR1.out.cell (j := 2) rfl
  obtain ⟨ad, v, rfl, hab, hcv, a, ca, rfl, hgl, hcl, _, hrd⟩ := hM'.out.m.at hk
  have hrng := Lib.hid (hM.rng gr (List.mem_of_getElem? hk))
  have hlen : Hid (n = Gs.length) := hM.len
  obtain ⟨l, hl⟩ : ∃ l, l = gr.length := ⟨_, rfl⟩
  rw [← hl] at hcv hgl
  have hlH := Lib.hid hl
  have hRd := Lib.hid hrd
  have hkH := Lib.hid hk
  obtain ⟨Ex, hEx⟩ : ∃ E : Int, E = grpR d Gs k gr := ⟨_, rfl⟩
  rw [← hEx]
  have hE := Lib.hid hEx
  have tnk : (k : Int) < (n : Int) := by omega
  have hk0 : 0 ≤ (k : Int) := Int.natCast_nonneg k
  have hlm : l ≤ maxLen := Nat.le_trans hgl hcl
  unfold maxLen at hlm
  have hW' := Lib.hid hW1
  clear hM hk hl hrd hEx hgl hcl hab
  unfold cdv
  rw [hW1] at p0 p1 p2 hcv
  clear hW1
  by_cases h0 : l = 0
  · subst h0
    go_enter Tryd.func48, Tryd.ntmps48
    go_wp2_with fail
    go_ret
    refine ⟨?_, by rw [hW'.out] at hB1; exact hB1.out⟩
    rw [hE.out]
    unfold grpR
    rw [if_pos (List.length_eq_zero_iff.1 hlH.out.symm)]
    rfl
  have hl0 : ¬ (l : Int) = 0 := by omega
  have h00 : Hid (OkTo d Gs k gr 0) := fun t i ht => by omega
  have hgn : Hid (gr ≠ []) := fun h => h0 (by rw [hlH.out, h]; rfl)
  go_enter Tryd.func48, Tryd.ntmps48
  go_wp2_with fail
  generalize hg : w.alloc _ = Wg at p0 p1 p2 hcv ⊢
  have hgW : W1 = Wg := by rw [← hg, hW'.out]
  clear hg hW'
  subst hgW
  go_loopw [5] (fun x wr => ∃ t : Nat, t ≤ l ∧ x = .int .i64 t ∧ Hid (OkTo d Gs k gr t) ∧ W1 = wr) (fun x _ => l - (intOf x).toNat)
  case atStart => exact ⟨0, by omega, rfl, h00, rfl⟩
  case round =>
    obtain ⟨t, ht, rfl, hI, rfl⟩ := hrel
    clear h00
    by_cases htl : t < l
    rotate_left
    · have tt : ¬ (t : Int) < (l : Int) := by omega
      obtain rfl : t = l := by omega
      have hz : Ex = 0 := by
        rw [hE.out]
        unfold grpR
        rw [if_neg hgn.out, if_neg]
        rintro ⟨t', i, h1, h2⟩
        exact hI.out t' i (by rw [hlH.out]; exact (List.getElem?_eq_some_iff.1 h1).1) h1 h2
      subst hz
      clear htl
      go_wp2_with fail
      go_ret
      exact ⟨rfl, hB1.out⟩
    have tt : (t : Int) < (l : Int) := by omega
    have t0 : 0 ≤ (t : Int) := Int.natCast_nonneg t
    obtain ⟨i, hi⟩ : ∃ i, gr[t]? = some i := ⟨_, List.getElem?_eq_getElem (by rw [← hlH.out]; exact htl)⟩
    obtain ⟨bd, hbd, _, hci0⟩ := hRd.out.look (k := t) (u := iv i) (by rw [List.getElem?_map, hi]; rfl)
    subst hbd
    have hci : W1.cell? (bd.add t) = some (.int .i64 i) := hci0
    have hir := hrng.out i (List.mem_of_getElem? hi)
    have hiH := Lib.hid hi
    clear hci0 hi
    have hbad : Hid ((BadO d gr t i ∨ InB Gs k i) → Ex = 1) := fun hb => by
      rw [hE.out]
      unfold grpR
      rw [if_neg hgn.out, if_pos ⟨t, i, hiH.out, hb⟩]
    by_cases hi0 : i < 0
    · skip
      have hz : Ex = 1 := hbad.out (.inl (.inl hi0))
      subst hz
      clear hbad hE
      go_wp2_with fail
      go_ret
      exact ⟨rfl, hB1.out⟩
    by_cases hid : (d : Int) ≤ i
    · have hi0' : ¬ i < 0 := hi0
      have hz : Ex = 1 := hbad.out (.inl (.inr (.inl hid)))
      subst hz
      clear hbad hE
      go_wp2_with fail
      go_ret
      exact ⟨rfl, hB1.out⟩
    have hid' : i < (d : Int) := by omega
    have hnx : Hid (¬ BadO d gr t i → ¬ InB Gs k i → OkTo d Gs k gr (t + 1)) := fun hb1 hb2 t' i' ht' hh => by
      by_cases e : t' = t
      · subst e
        rw [hiH.out] at hh
        obtain rfl := Option.some.inj hh
        exact fun h => h.elim hb1 hb2
      · exact hI.out t' i' (by omega) hh
    have hin0 : Hid (NotTo Gs i 0) := fun h hh => by omega
    by_cases htp : t = 0
    · have tz : ¬ (0 : Int) < (t : Int) := by omega
      have hno : Hid (¬ BadO d gr t i) := fun h => by rcases h with h | h | h <;> omega
      clear htp
      go_wp2_with fail
      clear hci
      go_loopw [7] (fun x wr => ∃ h : Nat, h ≤ k ∧ x = .int .i64 h ∧ Hid (NotTo Gs i h) ∧ W1 = wr) (fun x _ => k - (intOf x).toNat)
      case atStart => exact ⟨0, by omega, rfl, hin0, rfl⟩
      case round =>
        obtain ⟨h, hh, rfl, hJ, rfl⟩ := hrel
        clear hin0
        by_cases hhk : h < k
        rotate_left
        · have th : ¬ (h : Int) < (k : Int) := by omega
          obtain rfl : h = k := by omega
          have hnb : Hid (¬ InB Gs h i) := by
            rintro ⟨h', h1, g, h2, h3⟩
            exact hJ.out h' h1 g h2 h3
          have hrel2 := hnx.out hno.out hnb.out
          have hrH := Lib.hid hrel2
          clear hrel2 hhk
          go_wp2_with fail
          go_roundw
          case rel => exact ⟨t + 1, by omega, by go_num, hrH⟩
          case measure => simp [intOf]; omega
        have th : (h : Int) < (k : Int) := by omega
        have thn : (h : Int) < (n : Int) := by omega
        have h0' : 0 ≤ (h : Int) := Int.natCast_nonneg h
        obtain ⟨g2, hg2⟩ : ∃ g, Gs[h]? = some g := ⟨_, List.getElem?_eq_getElem (by have := hlen.out; omega)⟩
        obtain ⟨ad2, v2, hA2, _, hcv2, hro⟩ := hM'.out.m.at hg2
        obtain rfl := Option.some.inj hA2
        have CH := Lib.hid (has07_any g2 i v2 W1 hro (hsh2.out g2 (List.mem_of_getElem? hg2)))
        have hcv3 : W1.cell? (ad.add h) = some v2 := hcv2
        obtain ⟨a2, c2, rfl, _⟩ := hro
        have hg2H := Lib.hid hg2
        clear hcv2 hg2 hA2 hhk
        go_wp2_with fail
        refine CH.out.mono ?_
        rintro e wx ⟨⟨b, rfl, hb⟩, rfl⟩
        have hbH := Lib.hid hb
        clear hb CH hcv3
        cases b with
        | true =>
          have hz : Ex = 1 := hbad.out (.inr ⟨h, Int.ofNat_lt.1 th, g2, hg2H.out, hbH.out.1 rfl⟩)
          subst hz
          clear hbad hE
          go_wp2_with fail
          go_ret
          exact ⟨rfl, hB1.out⟩
        | false =>
          have hJ2 : Hid (NotTo Gs i (h + 1)) := fun h' h1 g h2 h3 => by
            by_cases e : h' = h
            · subst e
              rw [hg2H.out] at h2
              obtain rfl := Option.some.inj h2
              have := hbH.out.2 h3
              cases this
            · exact hJ.out h' (by omega) g h2 h3
          go_wp2_with fail
          go_roundw
          case rel => exact ⟨h + 1, by omega, by go_num, hJ2, trivial⟩
          case measure => simp [intOf]; omega
    · obtain ⟨t, rfl⟩ : ∃ s, t = s + 1 := ⟨t - 1, by omega⟩
      have tp : (0 : Int) < ((t + 1 : Nat) : Int) := by omega
      obtain ⟨y, hy⟩ : ∃ y, gr[t]? = some y := ⟨_, List.getElem?_eq_getElem (by have := hlH.out; omega)⟩
      obtain ⟨bd2, hbd2, _, hcy0⟩ := hRd.out.look (k := t) (u := iv y) (by rw [List.getElem?_map, hy]; rfl)
      obtain rfl := Option.some.inj hbd2
      have hcy : W1.cell? (bd.add t) = some (.int .i64 y) := hcy0
      have hci2 : W1.cell? ⟨bd.block, bd.off + (t + 1), none⟩ = some (.int .i64 i) := hci
      have ttl : (t : Int) < (l : Int) := by omega
      have tt0 : 0 ≤ (t : Int) := Int.natCast_nonneg t
      have hyd : gr.getD t 0 = y := by rw [List.getD_eq_getElem?_getD, hy]; rfl
      have hydH := Lib.hid hyd
      clear hcy0 hy hyd hbd2
      by_cases hiy : i ≤ y
      · skip
        have hz : Ex = 1 := hbad.out (.inl (.inr (.inr ⟨by omega, by rw [show t + 1 - 1 = t by omega, hydH.out]; exact hiy⟩)))
        subst hz
        clear hbad hE
        go_wp2_with fail
        go_ret
        exact ⟨rfl, hB1.out⟩
      have hno : Hid (¬ BadO d gr (t + 1) i) := fun h => by
        rcases h with h | h | ⟨_, h⟩
        · omega
        · omega
        · rw [show t + 1 - 1 = t by omega, hydH.out] at h; omega
      have hiy' : ¬ i ≤ y := hiy
      go_wp2_with fail
      clear hci hcy hci2
      go_loopw [7] (fun x wr => ∃ h : Nat, h ≤ k ∧ x = .int .i64 h ∧ Hid (NotTo Gs i h) ∧ W1 = wr) (fun x _ => k - (intOf x).toNat)
      case atStart => exact ⟨0, by omega, rfl, hin0, rfl⟩
      case round =>
        obtain ⟨h, hh, rfl, hJ, rfl⟩ := hrel
        clear hin0
        by_cases hhk : h < k
        rotate_left
        · have th : ¬ (h : Int) < (k : Int) := by omega
          obtain rfl : h = k := by omega
          have hnb : Hid (¬ InB Gs h i) := by
            rintro ⟨h', h1, g, h2, h3⟩
            exact hJ.out h' h1 g h2 h3
          have hrel2 := hnx.out hno.out hnb.out
          have hrH := Lib.hid hrel2
          clear hrel2 hhk
          go_wp2_with fail
          go_roundw
          case rel => exact ⟨(t + 1) + 1, by omega, by go_num, hrH⟩
          case measure => simp [intOf]; omega
        have th : (h : Int) < (k : Int) := by omega
        have thn : (h : Int) < (n : Int) := by omega
        have h0' : 0 ≤ (h : Int) := Int.natCast_nonneg h
        obtain ⟨g2, hg2⟩ : ∃ g, Gs[h]? = some g := ⟨_, List.getElem?_eq_getElem (by have := hlen.out; omega)⟩
        obtain ⟨ad2, v2, hA2, _, hcv2, hro⟩ := hM'.out.m.at hg2
        obtain rfl := Option.some.inj hA2
        have CH := Lib.hid (has07_any g2 i v2 W1 hro (hsh2.out g2 (List.mem_of_getElem? hg2)))
        have hcv3 : W1.cell? (ad.add h) = some v2 := hcv2
        obtain ⟨a2, c2, rfl, _⟩ := hro
        have hg2H := Lib.hid hg2
        clear hcv2 hg2 hA2 hhk
        go_wp2_with fail
        refine CH.out.mono ?_
        rintro e wx ⟨⟨b, rfl, hb⟩, rfl⟩
        have hbH := Lib.hid hb
        clear hb CH hcv3
        cases b with
        | true =>
          have hz : Ex = 1 := hbad.out (.inr ⟨h, Int.ofNat_lt.1 th, g2, hg2H.out, hbH.out.1 rfl⟩)
          subst hz
          clear hbad hE
          go_wp2_with fail
          go_ret
          exact ⟨rfl, hB1.out⟩
        | false =>
          have hJ2 : Hid (NotTo Gs i (h + 1)) := fun h' h1 g h2 h3 => by
            by_cases e : h' = h
            · subst e
              rw [hg2H.out] at h2
              obtain rfl := Option.some.inj h2
              have := hbH.out.2 h3
              cases this
            · exact hJ.out h' (by omega) g h2 h3
          go_wp2_with fail
          go_roundw
          case rel => exact ⟨h + 1, by omega, by go_num, hJ2, trivial⟩
          case measure => simp [intOf]; omega

end Go.Proofs.YtgajlgnniidgmaaDoor

namespace Go.Proofs.YtgajlgnniidgmaaDoor
set_option linter.unusedVariables false
set_option linter.unusedSimpArgs false
open Go.RowKit

set_option maxRecDepth 100000 in
set_option maxHeartbeats 8000000 in
theorem refCheck7_any {B : Nat} (D G : Int) (Gs : List (List Int)) (n c : Nat) (A : Option Addr) (w : World) (hM : CodM w B D A n c G Gs) (hsh : ∀ g ∈ Gs, g.length ≤ 1000000) :
    Calls Tryd.prog 29 #[cdv D A n c G] w fun e w' => e = .returned (.int .i64 (chkE D Gs G)) ∧ Below w.heap.size w w' := by
  obtain ⟨W1, hW1⟩ : ∃ W1, W1 = w.alloc (.cells #[.int .i64 D, .slice A n c, .int .i64 G] 24) := ⟨_, rfl⟩
  have hB1 : Hid (Below w.heap.size w W1) := by show Below _ _ _; rw [hW1]; exact (Below.refl _ _).alloc (Nat.le_refl _) _
  have hR1 : Hid (Blk W1 w.heap.size [.int .i64 D, .slice A n c, .int .i64 G] 24) := by show Blk _ _ _ _; rw [hW1]; exact Blk.new _ [_, _, _] _
  have hM' := Lib.hid (hM.keep hB1.out)
  have hsm := hM.small
  have hshH := Lib.hid hsh
  have hdd := Lib.hid size_cod
  have hun : Hid (Tryd.prog.underlying 24 = _) := Tryd.underlying24
  have p0 := hR1.out.cell (j := 0) rfl
  have p1 := hR1.out.cell (j := 1) rfl
  have p2 := hR1.out.cell (j := 2) rfl
  have hW' := Lib.hid hW1
  rw [hW1] at p0 p1 p2
  clear hM hsh hW1
  obtain ⟨Ex, hEx⟩ : ∃ E : Int, E = chkE D Gs G := ⟨_, rfl⟩
  rw [← hEx]
  unfold chkE at hEx
  have hE := Lib.hid hEx
  clear hEx
  unfold cdv
  have hBf : Hid (Below w.heap.size w (w.alloc (.cells #[.int .i64 D, .slice A n c, .int .i64 G] 24))) := by show Below _ _ _; rw [← hW'.out]; exact hB1.out
  by_cases h1 : D < 1
  · go_enter Tryd.func29, Tryd.ntmps29
    go_wp2_with fail
    go_ret
    rw [hE.out, if_pos (by omega)]
    exact ⟨rfl, hBf.out⟩
  by_cases h2 : D > 16
  · go_enter Tryd.func29, Tryd.ntmps29
    go_wp2_with fail
    go_ret
    rw [hE.out, if_pos (by omega)]
    exact ⟨rfl, hBf.out⟩
  by_cases h3 : G < 0
  · go_enter Tryd.func29, Tryd.ntmps29
    go_wp2_with fail
    go_ret
    rw [hE.out, if_pos (by omega)]
    exact ⟨rfl, hBf.out⟩
  by_cases h4 : G > 4
  · go_enter Tryd.func29, Tryd.ntmps29
    go_wp2_with fail
    go_ret
    rw [hE.out, if_pos (by omega)]
    exact ⟨rfl, hBf.out⟩
  obtain ⟨d, rfl⟩ : ∃ d : Nat, D = d := ⟨D.toNat, by omega⟩
  obtain ⟨q, rfl⟩ : ∃ q : Nat, G = q := ⟨G.toNat, by omega⟩
  have hd : d ≤ 16 := by omega
  have hq : q ≤ 4 := by omega
  have hE2 : Hid (Ex = if d + n + q > 24 then 2 else grpE d 0 Gs) := by
    show _ = _
    rw [hE.out, if_neg (by omega), Int.toNat_natCast, ← hM'.out.len]
    by_cases h : d + n + q > 24
    · rw [if_pos h, if_pos (by omega)]
    · rw [if_neg h, if_neg (by omega)]
  clear hE
  by_cases h5 : d + n + q > 24
  · have h5' : (24 : Int) < (d : Int) + (n : Int) + (q : Int) := by omega
    have hz : Ex = 2 := by rw [hE2.out, if_pos h5]
    subst hz
    clear h5
    go_enter Tryd.func29, Tryd.ntmps29
    go_wp2_with fail
    go_ret
    exact ⟨rfl, hBf.out⟩
  have h5' : ¬ (24 : Int) < (d : Int) + (n : Int) + (q : Int) := by omega
  have hz : Hid (Ex = grpE d 0 (Gs.drop 0)) := by show _ = _; rw [hE2.out, if_neg h5]; rfl
  have hn24 : n ≤ 24 := by omega
  have hlen : Hid (n = Gs.length) := hM'.out.len
  have hS0 : Hid (SameB 0 Gs 0) := sameB_zero Gs
  clear hE2 h5
  go_enter Tryd.func29, Tryd.ntmps29
  go_wp2_with fail
  clear hBf
  generalize hg : w.alloc _ = Wg at p0 p1 p2 ⊢
  have hgW : W1 = Wg := by rw [← hg, hW'.out]
  clear hg hW'
  subst hgW
  have hb0 : Hid (Below W1.heap.size W1 W1) := Below.refl _ _
  clear p0 p1 p2
  go_loopw [3] (fun x wr => ∃ (k us : Nat), k ≤ n ∧ x = .int .i64 k ∧ Hid (SameB us Gs k) ∧ Hid (Ex = grpE d us (Gs.drop k)) ∧ Hid (Below W1.heap.size W1 wr)) (fun x _ => n - (intOf x).toNat)
  case atStart => exact ⟨0, 0, by omega, rfl, hS0, hz, hb0⟩
  case round =>
    obtain ⟨k, us, hk, rfl, hS, hX, hbw⟩ := hrel
    clear hS0 hz hb0
    have hRk := Lib.hid (hR1.out.below hbw.out hR1.out.lt)
    have hMk := Lib.hid (hM'.out.keep hbw.out)
    have hBk := Lib.hid (hB1.out.trans (hbw.out.mono hB1.out.size))
    have p0 := hRk.out.cell (j := 0) rfl
    have p1 := hRk.out.cell (j := 1) rfl
    have p2 := hRk.out.cell (j := 2) rfl
    by_cases hkn : k < n
    rotate_left
    · have tk : ¬ (k : Int) < (n : Int) := by omega
      have hE0 : Ex = 0 := by rw [hX.out, grpE_end (by have := hlen.out; omega)]
      subst hE0
      clear hkn
      go_wp2_with fail
      go_ret
      exact ⟨rfl, hBk.out⟩
    have tk : (k : Int) < (n : Int) := by omega
    obtain ⟨gr, hgr⟩ : ∃ g, Gs[k]? = some g := ⟨_, List.getElem?_eq_getElem (by have := hlen.out; omega)⟩
    have CG := Lib.hid (refGroup7_any d k q Gs gr n c A wr hMk.out hgr hd hshH.out)
    have hnx := Lib.hid (grpE_next (D := d) hS.out hgr)
    obtain ⟨R, hR⟩ : ∃ R, R = grpR d Gs k gr := ⟨_, rfl⟩
    rw [← hR] at CG hnx
    clear hR hgr
    unfold cdv at CG
    go_wp2_with fail
    refine CG.out.mono ?_
    rintro e w2 ⟨rfl, hb⟩
    have hbw2 := Lib.hid (hbw.out.trans (hb.mono hbw.out.size))
    have hBk2 := Lib.hid (hBk.out.trans (hb.mono hBk.out.size))
    clear hb CG p0 p1 p2
    by_cases hR0 : R = 0
    · have z : (R != 0) = false := by simpa using hR0
      obtain ⟨u, hu1, hu2⟩ := hnx.out.2 hR0
      have hu1H := Lib.hid hu1
      have hu2H := Lib.hid (hX.out.trans hu2)
      clear hu1 hu2 hR0
      go_wp2_with fail
      go_roundw
      case rel => exact ⟨k + 1, u, by omega, by go_num, hu1H, hu2H, hbw2⟩
      case measure => simp [intOf]; omega
    · have z : (R != 0) = true := by simpa using hR0
      have hE0 : Hid (Ex = R) := by show _ = _; rw [hX.out, hnx.out.1 hR0]
      clear hR0
      go_wp2_with fail
      go_ret
      exact ⟨by rw [hE0.out]; rfl, hBk2.out⟩

/-- How many pieces a code has. -/
def pcs (D : Int) (Gs : List (List Int)) (G : Int) : Int := if chkE D Gs G = 0 then D + Gs.length + G else 0
set_option maxRecDepth 100000 in
set_option maxHeartbeats 4000000 in
theorem refPieces7_any {B : Nat} (D G : Int) (Gs : List (List Int)) (n c : Nat) (A : Option Addr) (w : World) (hM : CodM w B D A n c G Gs) (hsh : ∀ g ∈ Gs, g.length ≤ 1000000) :
    Calls Tryd.prog 60 #[cdv D A n c G] w fun e w' => e = .returned (.int .i64 (pcs D Gs G)) ∧ Below w.heap.size w w' := by
  obtain ⟨W1, hW1⟩ : ∃ W1, W1 = w.alloc (.cells #[.int .i64 D, .slice A n c, .int .i64 G] 24) := ⟨_, rfl⟩
  have hB1 : Hid (Below w.heap.size w W1) := by show Below _ _ _; rw [hW1]; exact (Below.refl _ _).alloc (Nat.le_refl _) _
  have hR1 : Hid (Blk W1 w.heap.size [.int .i64 D, .slice A n c, .int .i64 G] 24) := by show Blk _ _ _ _; rw [hW1]; exact Blk.new _ [_, _, _] _
  have hM' := Lib.hid (hM.keep hB1.out)
  have hdd := Lib.hid size_cod
  have hun : Hid (Tryd.prog.underlying 24 = _) := Tryd.underlying24
  have p0 := hR1.out.cell (j := 0) rfl
  have p1 := hR1.out.cell (j := 1) rfl
  have p2 := hR1.out.cell (j := 2) rfl
  have cK := refCheck7_any D G Gs n c A W1 hM'.out hsh
  subst hW1
  clear hM hsh
  unfold pcs
  obtain ⟨Ex, hEx⟩ : ∃ E : Int, E = chkE D Gs G := ⟨_, rfl⟩
  rw [← hEx] at cK ⊢
  unfold cdv at cK ⊢
  by_cases h0 : Ex = 0
  · subst h0
    obtain ⟨b1, b2, b3, b4, b5, _⟩ := cchk_ok hEx.symm
    obtain ⟨d, rfl⟩ : ∃ d : Nat, D = d := ⟨D.toNat, by omega⟩
    obtain ⟨q, rfl⟩ : ∃ q : Nat, G = q := ⟨G.toNat, by omega⟩
    have hl := hM'.out.len
    have hd : d ≤ 16 := by omega
    have hq : q ≤ 4 := by omega
    have hn24 : n ≤ 24 := by omega
    have hs : Hid ((d : Int) + Gs.length + q = (d : Int) + (n : Int) + (q : Int)) := by show _ = _; omega
    rw [if_pos rfl, hs.out]
    clear hs b5 hl hEx
    go_enter Tryd.func60, Tryd.ntmps60
    go_wp2_with fail
    refine cK.mono ?_
    rintro e v1 ⟨rfl, hb⟩
    have hb2 := Lib.hid (hB1.out.trans (hb.mono hB1.out.size))
    have hk := hR1.out.below hb hR1.out.lt
    replace p0 := hk.cell (j := 0) rfl
    replace p1 := hk.cell (j := 1) rfl
    replace p2 := hk.cell (j := 2) rfl
    clear hb hk
    go_wp2_with fail
    go_ret
    exact ⟨rfl, hb2.out⟩
  · rw [if_neg h0]
    have h0' : (Ex != 0) = true := by simpa using h0
    clear hEx h0
    go_enter Tryd.func60, Tryd.ntmps60
    go_wp2_with fail
    refine cK.mono ?_
    rintro e v1 ⟨rfl, hb⟩
    have hb2 := Lib.hid (hB1.out.trans (hb.mono hB1.out.size))
    clear hb
    go_wp2_with fail
    go_ret
    exact ⟨rfl, hb2.out⟩
end Go.Proofs.YtgajlgnniidgmaaDoor

namespace Go.Proofs.YtgajlgnniidgmaaDoor
set_option linter.unusedVariables false
set_option linter.unusedSimpArgs false
open Go.RowKit

/-- The first k rows are 0 at a place. -/
def NoP (L : List (List UInt8)) (a k : Nat) : Prop := ∀ j r, j < k → L[j]? = some r → r.getD a 0 = 0
theorem noP_zero (L : List (List UInt8)) (a : Nat) : NoP L a 0 := fun j r hj => by omega
theorem noP_next {L : List (List UInt8)} {a k : Nat} {r : List UInt8} (h : NoP L a k) (hr : L[k]? = some r) (h0 : r.getD a 0 = 0) : NoP L a (k + 1) := fun j r' hj hh => by
  by_cases e : j = k
  · subst e; rw [hr] at hh; obtain rfl := Option.some.inj hh; exact h0
  · exact h j r' (by omega) hh
theorem find_none7 {L : List (List UInt8)} {a : Nat} (h : NoP L a L.length) : L.findIdx? (fun r => r.getD a 0 != 0) = none := by
  rw [List.findIdx?_eq_none_iff]
  intro r hr
  obtain ⟨j, hj⟩ := List.getElem?_of_mem hr
  rw [h j r (List.getElem?_eq_some_iff.1 hj).1 hj]
  rfl
theorem find_some7 {L : List (List UInt8)} {a k : Nat} {r : List UInt8} (h : NoP L a k) (hr : L[k]? = some r) (h0 : r.getD a 0 ≠ 0) : L.findIdx? (fun r => r.getD a 0 != 0) = some k := by
  obtain ⟨hk, rfl⟩ := List.getElem?_eq_some_iff.1 hr
  rw [List.findIdx?_eq_some_iff_getElem]
  refine ⟨hk, by simpa using h0, fun j hj => ?_⟩
  rw [h j _ hj (List.getElem?_eq_getElem (by omega))]
  simp
theorem rk7_none {n a : Nat} {L : List (List UInt8)} (h : a < n) (hf : L.findIdx? (fun r => r.getD a 0 != 0) = none) : rk7 (n - a) a L = rk7 (n - (a + 1)) (a + 1) L := by
  obtain ⟨m, hm⟩ : ∃ m, n - a = m + 1 := ⟨n - a - 1, by omega⟩
  rw [hm, show n - (a + 1) = m by omega, rk7, hf]
theorem rk7_some {n a p : Nat} {L : List (List UInt8)} (h : a < n) (hf : L.findIdx? (fun r => r.getD a 0 != 0) = some p) : rk7 (n - a) a L = rk7 (n - (a + 1)) (a + 1) (lessL L p a) + 1 := by
  obtain ⟨m, hm⟩ : ∃ m, n - a = m + 1 := ⟨n - a - 1, by omega⟩
  rw [hm, show n - (a + 1) = m by omega, rk7, hf]
/-- The rest of the first k rows. -/
def resL (L : List (List UInt8)) (p a k : Nat) : List (List UInt8) := ((L.take k).eraseIdx p).map fun r => lessF r (L.getD p []) a r.length
theorem resL_zero (L : List (List UInt8)) (p a : Nat) : resL L p a 0 = [] := by simp [resL]
theorem resL_all (L : List (List UInt8)) (p a : Nat) : resL L p a L.length = lessL L p a := by unfold resL lessL; rw [List.take_length]
theorem take_nat7 {α : Type} {l : List α} {k : Nat} {x : α} (h : l[k]? = some x) : l.take (k + 1) = l.take k ++ [x] := by
  obtain ⟨h1, h2⟩ := List.getElem?_eq_some_iff.1 h
  rw [List.take_succ_eq_append_getElem h1, h2]
theorem resL_skip {L : List (List UInt8)} {p a : Nat} {r : List UInt8} (h : L[p]? = some r) : resL L p a (p + 1) = resL L p a p := by
  have hl := (List.getElem?_eq_some_iff.1 h).1
  unfold resL
  rw [take_nat7 h, List.eraseIdx_append_of_length_le (by rw [List.length_take]; omega), List.length_take, Nat.min_eq_left (by omega), Nat.sub_self, List.eraseIdx_cons_zero, List.append_nil, List.eraseIdx_of_length_le (by rw [List.length_take]; omega)]
theorem resL_next {L : List (List UInt8)} {p a k : Nat} {r : List UInt8} (h : L[k]? = some r) (hk : k ≠ p) : resL L p a (k + 1) = resL L p a k ++ [lessF r (L.getD p []) a r.length] := by
  have hl := (List.getElem?_eq_some_iff.1 h).1
  unfold resL
  rw [take_nat7 h]
  rcases Nat.lt_or_ge p k with hp | hp
  · rw [List.eraseIdx_append_of_lt_length (by rw [List.length_take]; omega), List.map_append]; rfl
  · rw [List.eraseIdx_of_length_le (by rw [List.length_append, List.length_take]; simp; omega), List.eraseIdx_of_length_le (by rw [List.length_take]; omega), List.map_append]; rfl
theorem resL_len (L : List (List UInt8)) (p a k : Nat) : (resL L p a k).length ≤ L.length := by
  unfold resL
  rw [List.length_map]
  refine Nat.le_trans (List.length_eraseIdx_le _ _) ?_
  rw [List.length_take]
  omega
theorem RowAt.nat {w : World} {B : Nat} {v : Value} {m : List UInt8} (h : RowAt w B v m) : ∃ a c, v = .slice a m.length c ∧ Rds w B a (m.map bv) := by
  obtain ⟨a, c, h1, _, _, _, h2⟩ := h
  exact ⟨a, c, h1, h2⟩
theorem Mat.nonempty {w : World} {B : Nat} {A : Option Addr} {M : List (List UInt8)} (h : Mat w B A M) {i : Nat} {m : List UInt8} (hi : M[i]? = some m) : 0 < B := by
  obtain ⟨ad, v, _, hb, _⟩ := h.at hi
  omega

/-- The rows that are left when so many places are done. -/
def RkI (w wr : World) (n a : Nat) (R0 : Nat) (v5 v6 : Value) : Prop := ∃ (L : List (List UInt8)) (A : Option Addr) (c r : Nat), v5 = .slice A L.length c ∧ v6 = .int .i64 (r : Int) ∧ Mat wr wr.heap.size A L ∧ (∀ m ∈ L, m.length = n) ∧ L.length ≤ 1000 ∧ r + rk7 (n - a) a L = R0 ∧ r ≤ a ∧ Below w.heap.size w wr
set_option maxRecDepth 100000 in
set_option maxHeartbeats 8000000 in
theorem refRank7_any (n c : Nat) (A : Option Addr) (M : List (List UInt8)) (w : World) (hM : Mat w w.heap.size A M) (hr : ∀ m ∈ M, m.length = n) (hl : M.length ≤ 1000) (hn : n ≤ 1000):
    Calls Tryd.prog 63 #[.slice A M.length c, .int .i64 (n : Int)] w fun e w' => e = .returned (.int .i64 (rk7 n 0 M : Nat)) ∧ Below w.heap.size w w' := by
  obtain ⟨R0, hR0⟩ : ∃ R, R = rk7 n 0 M := ⟨_, rfl⟩
  rw [← hR0]
  have h0 : Hid (RkI w w n 0 R0 (.slice A M.length c) (.int .i64 (0 : Nat))) := ⟨M, A, c, 0, rfl, rfl, hM, hr, hl, by rw [hR0, Nat.zero_add]; rfl, Nat.le_refl _, Below.refl _ _⟩
  clear hM hr hl hR0
  generalize M.length = ml at h0 ⊢
  go_enter Tryd.func63, Tryd.ntmps63
  go_wp2_with fail
  go_loopw [5, 6, 7] (fun v5 v6 x wr => ∃ a : Nat, a ≤ n ∧ x = .int .i64 a ∧ Hid (RkI w wr n a R0 v5 v6)) (fun _ _ x _ => n - (intOf x).toNat)
  case atStart => exact ⟨0, by omega, rfl, h0⟩
  case round =>
    obtain ⟨a, ha, rfl, hI⟩ := hrel
    clear h0
    obtain ⟨L, A2, c2, r, rfl, rfl, hM, hrl, hl, hrk, hra, hbw⟩ := hI.out
    have hMH := Lib.hid hM
    have hrlH := Lib.hid hrl
    have hrkH := Lib.hid hrk
    have hbwH := Lib.hid hbw
    obtain ⟨q, hq⟩ : ∃ q, q = L.length := ⟨_, rfl⟩
    have hqH := Lib.hid hq
    rw [← hq] at hl ⊢
    clear hI hM hrl hrk hbw hq
    by_cases han : a < n
    rotate_left
    · have ta : ¬ (a : Int) < (n : Int) := by omega
      obtain rfl : a = n := by omega
      have hz : Hid (r = R0) := by have := hrkH.out; rw [Nat.sub_self] at this; exact this
      clear han
      go_wp2_with fail
      go_ret
      exact ⟨by rw [hz.out]; rfl, hbwH.out⟩
    have ta : (a : Int) < (n : Int) := by omega
    have ta0 : 0 ≤ (a : Int) := Int.natCast_nonneg a
    have hN0 : Hid (NoP L a 0) := noP_zero L a
    go_wp2_with fail
    obtain ⟨wo, hwo⟩ : ∃ x, x = wr := ⟨_, rfl⟩
    subst hwo
    go_loopw [8, 9] (fun pv x wr => ∃ k : Nat, k ≤ q ∧ x = .int .i64 k ∧ ((pv = .int .i64 (-1) ∧ Hid (NoP L a k)) ∨ ∃ p : Nat, pv = .int .i64 (p : Int) ∧ p < q ∧ Hid (L.findIdx? (fun r => r.getD a 0 != 0) = some p ∧ ∃ rp, L[p]? = some rp ∧ rp.getD a 0 ≠ 0)) ∧ wo = wr) (fun pv x _ => q - (intOf x).toNat)
    case atStart => exact ⟨0, by omega, rfl, .inl ⟨rfl, hN0⟩, rfl⟩
    case round =>
      obtain ⟨k, hk, rfl, hP, rfl⟩ := hrel
      clear hN0
      rcases hP with ⟨rfl, hN⟩ | ⟨p, rfl, hpq, hf⟩
      · by_cases hkq : k < q
        · have tk : (k : Int) < (q : Int) := by omega
          obtain ⟨rw_, hrw⟩ : ∃ x, L[k]? = some x := ⟨_, List.getElem?_eq_getElem (by have := hqH.out; omega)⟩
          have hlen := hrlH.out rw_ (List.mem_of_getElem? hrw)
          obtain ⟨ad, v, rfl, _, hcv, hro⟩ := hMH.out.at hrw
          obtain ⟨ar, cr, rfl, hrd⟩ := hro.nat
          rw [hlen] at hcv
          obtain ⟨y, hy⟩ : ∃ y, y = rw_.getD a 0 := ⟨_, rfl⟩
          have hya : rw_[a]? = some y := by rw [hy, List.getD_eq_getElem?_getD, List.getElem?_eq_getElem (by omega)]; rfl
          obtain ⟨ad2, rfl, _, hcy0⟩ := hrd.look (k := a) (u := bv y) (by rw [List.getElem?_map, hya]; rfl)
          have hcy : wo.cell? (ad2.add a) = some (.int .u8 (y.toNat : Int)) := hcy0
          have hrwH := Lib.hid hrw
          have hyH := Lib.hid hy
          clear hrw hro hrd hcy0 hya hy hlen
          by_cases hy0 : y = 0
          · have z : ((y.toNat : Int) != 0) = false := by rw [hy0]; rfl
            have hN2 := Lib.hid (noP_next hN.out hrwH.out (by rw [← hyH.out]; exact hy0))
            clear hy0
            go_wp2_with fail
            go_roundw
            case rel => exact ⟨k + 1, by omega, by go_num, .inl ⟨rfl, hN2⟩, trivial⟩
            case measure => simp [intOf]; omega
          · have z : ((y.toNat : Int) != 0) = true := by rw [nz_int]; exact decide_eq_true hy0
            have hf : Hid (L.findIdx? (fun r => r.getD a 0 != 0) = some k ∧ ∃ rp, L[k]? = some rp ∧ rp.getD a 0 ≠ 0) := ⟨find_some7 hN.out hrwH.out (by rw [← hyH.out]; exact hy0), _, hrwH.out, by rw [← hyH.out]; exact hy0⟩
            clear hy0
            go_wp2_with fail
            go_roundw
            case rel => exact ⟨k + 1, by omega, by go_num, .inr ⟨k, rfl, hkq, hf⟩, trivial⟩
            case measure => simp [intOf]; omega
        · have tk : ¬ (k : Int) < (q : Int) := by omega
          obtain rfl : k = q := by omega
          have hI2 : Hid (RkI w wo n (a + 1) R0 (.slice A2 k c2) (.int .i64 (r : Int))) := ⟨L, A2, c2, r, by rw [← hqH.out], rfl, hMH.out, hrlH.out, by have := hqH.out; omega, by rw [← rk7_none han (find_none7 (by rw [← hqH.out]; exact hN.out))]; exact hrkH.out, by omega, hbwH.out⟩
          clear hkq
          go_wp2_with fail
          go_roundw
          case rel => exact ⟨a + 1, by omega, by go_num, hI2⟩
          case measure => simp [intOf]; omega
      · have tpn : ¬ (p : Int) < 0 := by omega
        have tp0 : 0 ≤ (p : Int) := Int.natCast_nonneg p
        by_cases hkq : k < q
        · have tk : (k : Int) < (q : Int) := by omega
          go_wp2_with fail
          have hQ0 : Hid (OwnQ 0 wo wo.heap.size (.slice none 0 0) (resL L p a 0)) := by show OwnQ _ _ _ _ _; rw [resL_zero]; exact ownQ_nil _ _ _
          have hB0 : Hid (Below wo.heap.size wo wo) := Below.refl _ _
          go_loopw [10, 11] (fun v x wr => ∃ t : Nat, t ≤ q ∧ x = .int .i64 t ∧ Hid (OwnQ 0 wr wo.heap.size v (resL L p a t)) ∧ Hid (Below wo.heap.size wo wr)) (fun _ x _ => q - (intOf x).toNat)
          case atStart => exact ⟨0, by omega, rfl, hQ0, hB0⟩
          case round =>
            obtain ⟨t, ht, rfl, hQ, hB⟩ := hrel
            clear hQ0 hB0
            by_cases htq : t < q
            rotate_left
            · have tt : ¬ (t : Int) < (q : Int) := by omega
              obtain rfl : t = q := by omega
              have hQ2 : OwnQ 0 wr wo.heap.size u10 (lessL L p a) := by have := hQ.out; rw [hqH.out, resL_all] at this; exact this
              obtain ⟨A3, c3, rfl, g1, g2, g3, g4⟩ := hQ2.mat
              have hll : (lessL L p a).length ≤ t := by rw [← resL_all, hqH.out]; exact resL_len _ _ _ _
              have hI2 : Hid (RkI w wr n (a + 1) R0 (.slice A3 (lessL L p a).length c3) (.int .i64 ((r + 1 : Nat) : Int))) := ⟨lessL L p a, A3, c3, r + 1, rfl, rfl, g4, lessL_len hrlH.out, by omega, by have := hrkH.out; rw [rk7_some han hf.out.1] at this; omega, by omega, hbwH.out.trans (hB.out.mono hbwH.out.size)⟩
              generalize (lessL L p a).length = l3 at hI2 ⊢
              clear hQ2 g1 g2 g3 g4 hll htq hQ
              go_wp2_with fail
              go_roundw
              case rel => exact ⟨a + 1, by omega, by go_num, by first | exact hI2 | (have := hI2; push_cast at this; exact this)⟩
              case measure => simp [intOf]; omega
            have tt : (t : Int) < (q : Int) := by omega
            obtain ⟨rt, hrt⟩ : ∃ x, L[t]? = some x := ⟨_, List.getElem?_eq_getElem (by have := hqH.out; omega)⟩
            by_cases htp : t = p
            · subst htp
              have z : ((t : Int) != (t : Int)) = false := by simp
              have hQ2 : Hid (OwnQ 0 wr wo.heap.size u10 (resL L t a (t + 1))) := by show OwnQ _ _ _ _ _; rw [resL_skip hrt]; exact hQ.out
              clear hrt
              go_wp2_with fail
              go_roundw
              case rel => exact ⟨t + 1, by omega, by go_num, hQ2, hB⟩
              case measure => simp [intOf]; omega
            have z : ((t : Int) != (p : Int)) = true := by simp; omega
            obtain ⟨rp, hrp, hrp0⟩ := hf.out.2
            have hMr := Lib.hid ((hMH.out.below hB.out).more hB.out.size)
            have hltH : Hid (rt.length = n) := hrlH.out rt (List.mem_of_getElem? hrt)
            have hlpH : Hid (rp.length = n) := hrlH.out rp (List.mem_of_getElem? hrp)
            obtain ⟨ad, v, rfl, hadb, hcv, hro⟩ := hMr.out.at hrt
            obtain ⟨ad', v', hA', _, hcv', hro'⟩ := hMr.out.at hrp
            obtain rfl := Option.some.inj hA'
            obtain ⟨ar, cr, rfl, hrd⟩ := hro.nat
            obtain ⟨ar', cr', rfl, hrd'⟩ := hro'.nat
            have hpos : Hid (0 < wr.heap.size) := by show 0 < _; omega
            have CL : Hid (Calls Tryd.prog 78 #[.slice ar n cr, .slice ar' n cr', .int .i64 a] wr.drew fun e w' => ∃ v, (e = .returned v ∧ OwnB w' wr.drew.heap.size v (lessF rt rp a rt.length)) ∧ Below wr.drew.heap.size wr.drew w') := by
              have := less07_any rt rp a cr cr' ar ar' wr.drew hrd hrd' (by rw [hltH.out, hlpH.out]; exact Nat.le_refl _) (by rw [hltH.out]; exact han) (by rw [hltH.out]; omega) hrp0
              rw [hltH.out, hlpH.out] at this
              rw [hltH.out]
              exact this
            rw [hltH.out] at hcv
            rw [hlpH.out] at hcv'
            have hnx : Hid (resL L p a (t + 1) = resL L p a t ++ [lessF rt rp a rt.length]) := by show _ = _; rw [resL_next hrt htp, show L.getD p [] = rp by rw [List.getD_eq_getElem?_getD, hrp]; rfl]
            have q1 : ∀ z : ExtOf wr.drew, z.world.cell? (ad.add t) = some (.slice ar n cr) := fun z => by rw [(z.below (Nat.le_refl _)).cell (p := ad.add t) (by rw [add_block]; exact hadb)]; exact hcv
            have q2 : ∀ z : ExtOf wr.drew, z.world.cell? (ad.add p) = some (.slice ar' n cr') := fun z => by rw [(z.below (Nat.le_refl _)).cell (p := ad.add p) (by rw [add_block]; exact hadb)]; exact hcv'
            have tp : (p : Int) < (q : Int) := by omega
            have hrsl : (resL L p a t).length ≤ 1000000 := by have := resL_len L p a t; have := hqH.out; omega
            have hrslH := Lib.hid hrsl
            clear hrt hrp hrp0 htp hro hro' hrd hrd' hcv hcv' hadb hrsl
            go_wp2_with fail
            refine wp_region_planM [12] [(true, 0), (true, 1), (true, 2), (true, 3), (true, 4), (true, 5), (true, 6), (true, 7), (true, 8), (true, 9), (false, 10), (false, 11), (false, 12), (true, 13)] (by decide) (by kernel_rfl) (by kernel_rfl) (by decide) (by intro c a d v w h; cases d <;> exact h) ?_
            change wpPlanM _ _ _ _ _ _ wr.drew
            have hBd : Hid (Below wo.heap.size wo wr.drew) := hB.out.drew
            have hQd : Hid (OwnQ 0 wr.drew wo.heap.size u10 (resL L p a t)) := hQ.out.keep ((Below.refl _ _).drew)
            have hpd : Hid (0 < wr.drew.heap.size) := hpos.out
            iterate 10 (refine wpPlanM_plain rfl (fun K hK => ?_); go_simp; refine hK _ ?_; clear hK K)
            clear q1 q2
            generalize wr.drew = wd at hBd hQd hpd CL ⊢
            refine wpPlanM_call rfl (fun K hK => ?_)
            go_wp2_with fail
            refine CL.out.mono ?_
            rintro e w4 ⟨vr, ⟨rfl, hu⟩, hb4⟩
            have hoff := own_off hu hQd.out hpd.out
            have hoffH := Lib.hid hoff
            have ho4 := Lib.hid (hQd.out.keep hb4)
            have hB4 := Lib.hid (hBd.out.trans (hb4.mono hBd.out.size))
            have hsz4 : Hid (wo.heap.size ≤ w4.heap.size) := hB4.out.size
            have hb4H := Lib.hid hb4
            obtain ⟨Au, cu, rfl, _⟩ := hoff
            clear hu hb4 CL
            go_wp2_with fail
            refine planPostL_normal ⟨.inr hb4H.out, hK _ _ ?_⟩
            clear hK K
            refine wpPlanM_call rfl (fun K hK => ?_)
            go_wp2_with fail
            refine planPostL_normal ⟨.inr ((Below.refl _ _).alloc (Nat.le_refl _) _), hK _ _ ?_⟩
            clear hK K
            refine wpPlanM_call rfl (fun K hK => ?_)
            refine push_q rfl _ _ rfl wo.heap.size _ (resL L p a t) _ _ rfl rfl ho4.out hoffH.out hrslH.out hsz4.out ?_
            intro v5 w5 ho5 hb5 hg5
            refine wpList_end (planPostL_normal ⟨.inl (by simp), hK _ _ ?_⟩)
            clear hK K
            iterate 1 (refine wpPlanM_plain rfl (fun K hK => ?_); go_simp; refine hK _ ?_; clear hK K)
            refine wpPlanM_nil ?_
            have f1 : Hid (OwnQ 0 w5 wo.heap.size v5 (resL L p a (t + 1))) := by show OwnQ _ _ _ _ _; rw [hnx.out]; exact ho5
            have f2 := Lib.hid (hB4.out.trans hb5)
            clear ho5 hb5 hg5
            go_wp2_with fail
            go_roundw
            case rel => exact ⟨t + 1, by omega, by go_num, f1, f2⟩
            case measure => simp [intOf]; omega
        · have tk : ¬ (k : Int) < (q : Int) := by omega
          go_wp2_with fail
          have hQ0 : Hid (OwnQ 0 wo wo.heap.size (.slice none 0 0) (resL L p a 0)) := by show OwnQ _ _ _ _ _; rw [resL_zero]; exact ownQ_nil _ _ _
          have hB0 : Hid (Below wo.heap.size wo wo) := Below.refl _ _
          go_loopw [10, 11] (fun v x wr => ∃ t : Nat, t ≤ q ∧ x = .int .i64 t ∧ Hid (OwnQ 0 wr wo.heap.size v (resL L p a t)) ∧ Hid (Below wo.heap.size wo wr)) (fun _ x _ => q - (intOf x).toNat)
          case atStart => exact ⟨0, by omega, rfl, hQ0, hB0⟩
          case round =>
            obtain ⟨t, ht, rfl, hQ, hB⟩ := hrel
            clear hQ0 hB0
            by_cases htq : t < q
            rotate_left
            · have tt : ¬ (t : Int) < (q : Int) := by omega
              obtain rfl : t = q := by omega
              have hQ2 : OwnQ 0 wr wo.heap.size u10 (lessL L p a) := by have := hQ.out; rw [hqH.out, resL_all] at this; exact this
              obtain ⟨A3, c3, rfl, g1, g2, g3, g4⟩ := hQ2.mat
              have hll : (lessL L p a).length ≤ t := by rw [← resL_all, hqH.out]; exact resL_len _ _ _ _
              have hI2 : Hid (RkI w wr n (a + 1) R0 (.slice A3 (lessL L p a).length c3) (.int .i64 ((r + 1 : Nat) : Int))) := ⟨lessL L p a, A3, c3, r + 1, rfl, rfl, g4, lessL_len hrlH.out, by omega, by have := hrkH.out; rw [rk7_some han hf.out.1] at this; omega, by omega, hbwH.out.trans (hB.out.mono hbwH.out.size)⟩
              generalize (lessL L p a).length = l3 at hI2 ⊢
              clear hQ2 g1 g2 g3 g4 hll htq hQ
              go_wp2_with fail
              go_roundw
              case rel => exact ⟨a + 1, by omega, by go_num, by first | exact hI2 | (have := hI2; push_cast at this; exact this)⟩
              case measure => simp [intOf]; omega
            have tt : (t : Int) < (q : Int) := by omega
            obtain ⟨rt, hrt⟩ : ∃ x, L[t]? = some x := ⟨_, List.getElem?_eq_getElem (by have := hqH.out; omega)⟩
            by_cases htp : t = p
            · subst htp
              have z : ((t : Int) != (t : Int)) = false := by simp
              have hQ2 : Hid (OwnQ 0 wr wo.heap.size u10 (resL L t a (t + 1))) := by show OwnQ _ _ _ _ _; rw [resL_skip hrt]; exact hQ.out
              clear hrt
              go_wp2_with fail
              go_roundw
              case rel => exact ⟨t + 1, by omega, by go_num, hQ2, hB⟩
              case measure => simp [intOf]; omega
            have z : ((t : Int) != (p : Int)) = true := by simp; omega
            obtain ⟨rp, hrp, hrp0⟩ := hf.out.2
            have hMr := Lib.hid ((hMH.out.below hB.out).more hB.out.size)
            have hltH : Hid (rt.length = n) := hrlH.out rt (List.mem_of_getElem? hrt)
            have hlpH : Hid (rp.length = n) := hrlH.out rp (List.mem_of_getElem? hrp)
            obtain ⟨ad, v, rfl, hadb, hcv, hro⟩ := hMr.out.at hrt
            obtain ⟨ad', v', hA', _, hcv', hro'⟩ := hMr.out.at hrp
            obtain rfl := Option.some.inj hA'
            obtain ⟨ar, cr, rfl, hrd⟩ := hro.nat
            obtain ⟨ar', cr', rfl, hrd'⟩ := hro'.nat
            have hpos : Hid (0 < wr.heap.size) := by show 0 < _; omega
            have CL : Hid (Calls Tryd.prog 78 #[.slice ar n cr, .slice ar' n cr', .int .i64 a] wr.drew fun e w' => ∃ v, (e = .returned v ∧ OwnB w' wr.drew.heap.size v (lessF rt rp a rt.length)) ∧ Below wr.drew.heap.size wr.drew w') := by
              have := less07_any rt rp a cr cr' ar ar' wr.drew hrd hrd' (by rw [hltH.out, hlpH.out]; exact Nat.le_refl _) (by rw [hltH.out]; exact han) (by rw [hltH.out]; omega) hrp0
              rw [hltH.out, hlpH.out] at this
              rw [hltH.out]
              exact this
            rw [hltH.out] at hcv
            rw [hlpH.out] at hcv'
            have hnx : Hid (resL L p a (t + 1) = resL L p a t ++ [lessF rt rp a rt.length]) := by show _ = _; rw [resL_next hrt htp, show L.getD p [] = rp by rw [List.getD_eq_getElem?_getD, hrp]; rfl]
            have q1 : ∀ z : ExtOf wr.drew, z.world.cell? (ad.add t) = some (.slice ar n cr) := fun z => by rw [(z.below (Nat.le_refl _)).cell (p := ad.add t) (by rw [add_block]; exact hadb)]; exact hcv
            have q2 : ∀ z : ExtOf wr.drew, z.world.cell? (ad.add p) = some (.slice ar' n cr') := fun z => by rw [(z.below (Nat.le_refl _)).cell (p := ad.add p) (by rw [add_block]; exact hadb)]; exact hcv'
            have tp : (p : Int) < (q : Int) := by omega
            have hrsl : (resL L p a t).length ≤ 1000000 := by have := resL_len L p a t; have := hqH.out; omega
            have hrslH := Lib.hid hrsl
            clear hrt hrp hrp0 htp hro hro' hrd hrd' hcv hcv' hadb hrsl
            go_wp2_with fail
            refine wp_region_planM [12] [(true, 0), (true, 1), (true, 2), (true, 3), (true, 4), (true, 5), (true, 6), (true, 7), (true, 8), (true, 9), (false, 10), (false, 11), (false, 12), (true, 13)] (by decide) (by kernel_rfl) (by kernel_rfl) (by decide) (by intro c a d v w h; cases d <;> exact h) ?_
            change wpPlanM _ _ _ _ _ _ wr.drew
            have hBd : Hid (Below wo.heap.size wo wr.drew) := hB.out.drew
            have hQd : Hid (OwnQ 0 wr.drew wo.heap.size u10 (resL L p a t)) := hQ.out.keep ((Below.refl _ _).drew)
            have hpd : Hid (0 < wr.drew.heap.size) := hpos.out
            iterate 10 (refine wpPlanM_plain rfl (fun K hK => ?_); go_simp; refine hK _ ?_; clear hK K)
            clear q1 q2
            generalize wr.drew = wd at hBd hQd hpd CL ⊢
            refine wpPlanM_call rfl (fun K hK => ?_)
            go_wp2_with fail
            refine CL.out.mono ?_
            rintro e w4 ⟨vr, ⟨rfl, hu⟩, hb4⟩
            have hoff := own_off hu hQd.out hpd.out
            have hoffH := Lib.hid hoff
            have ho4 := Lib.hid (hQd.out.keep hb4)
            have hB4 := Lib.hid (hBd.out.trans (hb4.mono hBd.out.size))
            have hsz4 : Hid (wo.heap.size ≤ w4.heap.size) := hB4.out.size
            have hb4H := Lib.hid hb4
            obtain ⟨Au, cu, rfl, _⟩ := hoff
            clear hu hb4 CL
            go_wp2_with fail
            refine planPostL_normal ⟨.inr hb4H.out, hK _ _ ?_⟩
            clear hK K
            refine wpPlanM_call rfl (fun K hK => ?_)
            go_wp2_with fail
            refine planPostL_normal ⟨.inr ((Below.refl _ _).alloc (Nat.le_refl _) _), hK _ _ ?_⟩
            clear hK K
            refine wpPlanM_call rfl (fun K hK => ?_)
            refine push_q rfl _ _ rfl wo.heap.size _ (resL L p a t) _ _ rfl rfl ho4.out hoffH.out hrslH.out hsz4.out ?_
            intro v5 w5 ho5 hb5 hg5
            refine wpList_end (planPostL_normal ⟨.inl (by simp), hK _ _ ?_⟩)
            clear hK K
            iterate 1 (refine wpPlanM_plain rfl (fun K hK => ?_); go_simp; refine hK _ ?_; clear hK K)
            refine wpPlanM_nil ?_
            have f1 : Hid (OwnQ 0 w5 wo.heap.size v5 (resL L p a (t + 1))) := by show OwnQ _ _ _ _ _; rw [hnx.out]; exact ho5
            have f2 := Lib.hid (hB4.out.trans hb5)
            clear ho5 hb5 hg5
            go_wp2_with fail
            go_roundw
            case rel => exact ⟨t + 1, by omega, by go_num, f1, f2⟩
            case measure => simp [intOf]; omega
end Go.Proofs.YtgajlgnniidgmaaDoor

namespace Go.Proofs.YtgajlgnniidgmaaDoor
set_option linter.unusedVariables false
set_option linter.unusedSimpArgs false
open Go.RowKit

theorem pcs_nat {d g : Nat} {Gs : List (List Int)} {N : Nat} (h0 : chkE (d : Int) Gs (g : Int) = 0) (hN : d + (Gs.length + g) = N) : pcs (d : Int) Gs (g : Int) = (N : Int) := by
  unfold pcs
  rw [if_pos h0]
  omega
theorem two24n {N : Nat} (h : N ≤ 24) : 2 ^ N ≤ 16777216 := Nat.le_trans (Nat.pow_le_pow_right (by decide) h) (by decide)
/-- A number is a set of N pieces. -/
def SetP (s : Int) (N : Nat) : Prop := 0 ≤ s ∧ s < ((2 ^ N : Nat) : Int)
set_option maxRecDepth 100000 in
set_option maxHeartbeats 8000000 in
theorem refIsSet7_any {B : Nat} (d g : Nat) (s : Int) (Gs : List (List Int)) (n c N : Nat) (A : Option Addr) (w : World) (hM : CodM w B (d : Int) A n c (g : Int) Gs) (hsh : ∀ g ∈ Gs, g.length ≤ 1000000) (h0 : chkE (d : Int) Gs (g : Int) = 0) (hN : d + (Gs.length + g) = N) (hN24 : N ≤ 24) :
    Calls Tryd.prog 59 #[cdv (d : Int) A n c (g : Int), .int .i64 s] w (SayEnd w (SetP s N)) := by
  obtain ⟨W1, hW1⟩ : ∃ W1, W1 = w.alloc (.cells #[.int .i64 d, .slice A n c, .int .i64 g] 24) := ⟨_, rfl⟩
  have hB1 : Hid (Below w.heap.size w W1) := by show Below _ _ _; rw [hW1]; exact (Below.refl _ _).alloc (Nat.le_refl _) _
  have hR1 : Hid (Blk W1 w.heap.size [.int .i64 d, .slice A n c, .int .i64 g] 24) := by show Blk _ _ _ _; rw [hW1]; exact Blk.new _ [_, _, _] _
  have hM' := Lib.hid (hM.keep hB1.out)
  have p0 := hR1.out.cell (j := 0) rfl
  have p1 := hR1.out.cell (j := 1) rfl
  have p2 := hR1.out.cell (j := 2) rfl
  have CP := refPieces7_any (d : Int) (g : Int) Gs n c A W1 hM'.out hsh
  rw [pcs_nat h0 hN] at CP
  obtain ⟨Q, hQ⟩ : ∃ Q, Q = SetP s N := ⟨_, rfl⟩
  rw [← hQ]
  have hQH := Lib.hid hQ
  obtain ⟨PP, hPP⟩ : ∃ PP, PP = 2 ^ N := ⟨_, rfl⟩
  have CB := Lib.hid fun W => bit07_any N W (by omega)
  rw [← hPP] at CB
  have hPl : PP ≤ 16777216 := by rw [hPP]; exact two24n hN24
  have hPH := Lib.hid hPP
  subst hW1
  clear hM hsh hQ hPP hN h0
  unfold cdv at CP ⊢
  by_cases hs : s < 0
  · have hno : Hid (¬ Q) := by show ¬ Q; rw [hQH.out]; exact fun h => by have := h.1; omega
    have hge : ¬ s ≥ 0 := by omega
    clear hs
    go_enter Tryd.func59, Tryd.ntmps59
    go_wp2_with fail
    go_ret
    exact ⟨⟨false, rfl, ⟨fun h => (by cases h), fun h => absurd h hno.out⟩⟩, hB1.out⟩
  obtain ⟨t, rfl⟩ : ∃ t : Nat, s = t := ⟨s.toNat, by omega⟩
  have hge : (t : Int) ≥ 0 := by omega
  clear hs
  obtain ⟨b, hb⟩ : ∃ b, b = decide ((t : Int) < (PP : Int)) := ⟨_, rfl⟩
  have hbQ : Hid (b = true ↔ Q) := by
    show _ ↔ _
    rw [hb, decide_eq_true_iff, hQH.out, hPH.out]
    exact ⟨fun h => ⟨Int.natCast_nonneg _, h⟩, fun h => h.2⟩
  go_enter Tryd.func59, Tryd.ntmps59
  go_wp2_with fail
  refine CP.mono ?_
  rintro e v1 ⟨rfl, hb1⟩
  have hb2 := Lib.hid (hB1.out.trans (hb1.mono hB1.out.size))
  clear hb1
  go_wp2_with fail
  refine (CB.out _).mono ?_
  rintro e v2 ⟨rfl, rfl⟩
  by_cases hlt : (t : Int) < (PP : Int)
  · have hbt : b = true := by rw [hb]; exact decide_eq_true hlt
    have hyes : Hid Q := hbQ.out.1 hbt
    clear hb hbQ hbt
    go_wp2_with fail
    go_ret
    exact ⟨⟨true, by first | rfl | (go_simp; done) | (go_simp; omega), ⟨fun _ => hyes.out, fun _ => rfl⟩⟩, hb2.out⟩
  · have hbt : b = false := by rw [hb]; exact decide_eq_false hlt
    have hno : Hid (¬ Q) := fun h => by have := hbQ.out.2 h; rw [hbt] at this; cases this
    clear hb hbQ hbt
    go_wp2_with fail
    go_ret
    exact ⟨⟨false, by first | rfl | (go_simp; done) | (go_simp; omega), ⟨fun h => (by cases h), fun h => absurd h hno.out⟩⟩, hb2.out⟩

theorem pcL_zero (D : Nat) (Gs : List (List Int)) (s : Nat) : pcL D Gs s 0 = [] := rfl
theorem pcL_yes {D s k : Nat} {Gs : List (List Int)} (h : s.testBit k = true) : pcL D Gs s (k + 1) = pcL D Gs s k ++ [crow D Gs k D] := by
  unfold pcL; rw [List.range_succ, List.filter_append, List.map_append]; simp [h]
theorem pcL_no {D s k : Nat} {Gs : List (List Int)} (h : s.testBit k = false) : pcL D Gs s (k + 1) = pcL D Gs s k := by
  unfold pcL; rw [List.range_succ, List.filter_append]; simp [h]
theorem pcL_len (D s : Nat) (Gs : List (List Int)) (k : Nat) : (pcL D Gs s k).length ≤ k := by
  have := List.length_filter_le (fun k => s.testBit k) (List.range k)
  unfold pcL
  rw [List.length_map]
  rw [List.length_range] at this
  exact this

set_option maxRecDepth 100000 in
set_option maxHeartbeats 8000000 in
theorem refRecoverable7_any {B : Nat} (D G s : Int) (Gs : List (List Int)) (n c : Nat) (A : Option Addr) (w : World) (hM : CodM w B D A n c G Gs) (hsh : ∀ g ∈ Gs, g.length ≤ 1000000) :
    Calls Tryd.prog 46 #[cdv D A n c G, .int .i64 s] w (SayEnd w (RecP D Gs G s)) := by
  obtain ⟨W1, hW1⟩ : ∃ W1, W1 = w.alloc (.cells #[.int .i64 D, .slice A n c, .int .i64 G] 24) := ⟨_, rfl⟩
  have hB1 : Hid (Below w.heap.size w W1) := by show Below _ _ _; rw [hW1]; exact (Below.refl _ _).alloc (Nat.le_refl _) _
  have hR1 : Hid (Blk W1 w.heap.size [.int .i64 D, .slice A n c, .int .i64 G] 24) := by show Blk _ _ _ _; rw [hW1]; exact Blk.new _ [_, _, _] _
  have hM' := Lib.hid (hM.keep hB1.out)
  have hdd := Lib.hid size_cod
  have hun : Hid (Tryd.prog.underlying 24 = _) := Tryd.underlying24
  have hshH := Lib.hid hsh
  have hlen : Hid (n = Gs.length) := hM.len
  have CK := refCheck7_any D G Gs n c A W1 hM'.out hsh
  obtain ⟨Q, hQ⟩ : ∃ Q, Q = RecP D Gs G s := ⟨_, rfl⟩
  rw [← hQ]
  have hQH := Lib.hid hQ
  have p0 := hR1.out.cell (j := 0) rfl
  have p1 := hR1.out.cell (j := 1) rfl
  have p2 := hR1.out.cell (j := 2) rfl
  have hW' := Lib.hid hW1
  rw [hW1] at p0 p1 p2 CK
  obtain ⟨Ex, hEx⟩ : ∃ E : Int, E = chkE D Gs G := ⟨_, rfl⟩
  rw [← hEx] at CK
  have hEH := Lib.hid hEx
  have hBf : Hid (Below w.heap.size w (w.alloc (.cells #[.int .i64 D, .slice A n c, .int .i64 G] 24))) := by show Below _ _ _; rw [← hW'.out]; exact hB1.out
  clear hM hsh hW1 hQ hEx
  unfold cdv at CK ⊢
  by_cases hE0 : Ex = 0
  rotate_left
  · have z : (Ex != 0) = true := by simpa using hE0
    have hno : Hid (¬ Q) := by show ¬ Q; rw [hQH.out]; exact fun h => hE0 (hEH.out.trans h.1)
    clear hE0
    go_enter Tryd.func46, Tryd.ntmps46
    go_wp2_with fail
    refine CK.mono ?_
    rintro e v1 ⟨rfl, hb⟩
    have hb2 := Lib.hid (hBf.out.trans (hb.mono hBf.out.size))
    clear hb
    go_wp2_with fail
    go_ret
    exact ⟨⟨false, rfl, ⟨fun h => (by cases h), fun h => absurd h hno.out⟩⟩, hb2.out⟩
  subst hE0
  obtain ⟨b1, b2, b3, b4, b5, b6⟩ := cchk_ok hEH.out.symm
  obtain ⟨d, rfl⟩ : ∃ d : Nat, D = d := ⟨D.toNat, by omega⟩
  obtain ⟨g, rfl⟩ : ∃ g : Nat, G = g := ⟨G.toNat, by omega⟩
  have h0 : Hid (chkE (d : Int) Gs (g : Int) = 0) := hEH.out.symm
  obtain ⟨N, hN⟩ : ∃ N, N = d + (Gs.length + g) := ⟨_, rfl⟩
  have hNH : Hid (d + (Gs.length + g) = N) := hN.symm
  have hN24 : N ≤ 24 := by omega
  have hd16 : d ≤ 16 := by omega
  have hd1 : Hid (1 ≤ d) := by show _ ≤ _; omega
  have hn24 : n ≤ 24 := by have := hlen.out; omega
  clear b1 b2 b3 b4 b5 b6 hN hEH
  have CS : Hid (∀ W, CodM W B (d : Int) A n c (g : Int) Gs → Calls Tryd.prog 59 #[cdv (d : Int) A n c (g : Int), .int .i64 s] W (SayEnd W (SetP s N))) := fun W m => refIsSet7_any d g s Gs n c N A W m hshH.out h0.out hNH.out hN24
  have CP : Hid (∀ W, CodM W B (d : Int) A n c (g : Int) Gs → Calls Tryd.prog 60 #[cdv (d : Int) A n c (g : Int)] W fun e w' => e = .returned (.int .i64 (N : Int)) ∧ Below W.heap.size W w') := fun W m => by
    have := refPieces7_any (d : Int) (g : Int) Gs n c A W m hshH.out
    rw [pcs_nat h0.out hNH.out] at this
    exact this
  unfold cdv at CS CP
  have hRQ : Hid (∀ t : Nat, s = t → (Q ↔ t < 2 ^ N ∧ Full7 (pcL d Gs t N) d)) := fun t ht => by
    subst ht
    have e2 : ((2 ^ N : Nat) : Int) = (2 : Int) ^ N := by rw [Int.natCast_pow]; rfl
    rw [hQH.out]
    unfold RecP
    rw [Int.toNat_natCast, Int.toNat_natCast, Int.toNat_natCast, Nat.add_assoc, hNH.out, ← e2]
    exact ⟨fun h => ⟨Int.ofNat_lt.1 h.2.2.1, h.2.2.2⟩, fun h => ⟨h0.out, Int.natCast_nonneg _, Int.ofNat_lt.2 h.1, h.2⟩⟩
  have hnoS : Hid (¬ SetP s N → ¬ Q) := fun h hq => by
    rw [hQH.out] at hq
    have e2 : ((2 ^ N : Nat) : Int) = (2 : Int) ^ N := by rw [Int.natCast_pow]; rfl
    have h3 := hq.2.2.1
    rw [Int.toNat_natCast, Int.toNat_natCast, Nat.add_assoc, hNH.out, ← e2] at h3
    exact h ⟨hq.2.1, h3⟩
  go_enter Tryd.func46, Tryd.ntmps46
  go_wp2_with fail
  refine CK.mono ?_
  rintro e v1 ⟨rfl, hb⟩
  have hb' : Below W1.heap.size W1 v1 := by rw [hW'.out]; exact hb
  have hB2 := Lib.hid (hB1.out.trans (hb'.mono hB1.out.size))
  have hR2 := Lib.hid (hR1.out.below hb' hR1.out.lt)
  have hM2 := Lib.hid (hM'.out.keep hb')
  clear hb hb' CK p0 p1 p2 hBf hW' hB1 hR1 hM'
  have p0 := hR2.out.cell (j := 0) rfl
  have p1 := hR2.out.cell (j := 1) rfl
  have p2 := hR2.out.cell (j := 2) rfl
  go_wp2_with fail
  refine (CS.out _ hM2.out).mono ?_
  rintro e v2 ⟨⟨b, rfl, hbs⟩, hb⟩
  have hB3 := Lib.hid (hB2.out.trans (hb.mono hB2.out.size))
  have hR3 := Lib.hid (hR2.out.below hb hR2.out.lt)
  have hM3 := Lib.hid (hM2.out.keep hb)
  have hbsH := Lib.hid hbs
  clear hb p0 p1 p2 hB2 hR2 hM2 hbs
  have p0 := hR3.out.cell (j := 0) rfl
  have p1 := hR3.out.cell (j := 1) rfl
  have p2 := hR3.out.cell (j := 2) rfl
  cases b with
  | false =>
    have hno : Hid (¬ Q) := hnoS.out fun h => by have := hbsH.out.2 h; cases this
    go_wp2_with fail
    go_ret
    exact ⟨⟨false, rfl, ⟨fun h => (by cases h), fun h => absurd h hno.out⟩⟩, hB3.out⟩
  | true =>
    have hst := hbsH.out.1 rfl
    obtain ⟨t, rfl⟩ : ∃ t : Nat, s = t := ⟨s.toNat, by have := hst.1; omega⟩
    have htl : Hid (t < 2 ^ N) := Int.ofNat_lt.1 hst.2
    have ht62 : t ≤ 4611686018427387904 := by have := htl.out; have := two24n hN24; omega
    have hQ0 : Hid (OwnQ 0 v2 v2.heap.size (.slice none 0 0) (pcL d Gs t 0)) := ownQ_nil _ _ _
    have hb0 : Hid (Below v2.heap.size v2 v2) := Below.refl _ _
    clear hst hbsH hnoS CS
    go_wp2_with fail
    clear p0 p1 p2
    go_loopw [6, 7] (fun v x wr => ∃ k : Nat, k ≤ N ∧ x = .int .i64 k ∧ Hid (OwnQ 0 wr v2.heap.size v (pcL d Gs t k)) ∧ Hid (Below v2.heap.size v2 wr)) (fun _ x _ => N - (intOf x).toNat)
    case atStart => exact ⟨0, by omega, rfl, hQ0, hb0⟩
    case round =>
      obtain ⟨k, hk, rfl, hQw, hbw⟩ := hrel
      clear hQ0 hb0
      have hB4 := Lib.hid (hB3.out.trans (hbw.out.mono hB3.out.size))
      have hR4 := Lib.hid (hR3.out.below hbw.out hR3.out.lt)
      have hM4 := Lib.hid (hM3.out.keep hbw.out)
      have p0 := hR4.out.cell (j := 0) rfl
      have p1 := hR4.out.cell (j := 1) rfl
      have p2 := hR4.out.cell (j := 2) rfl
      go_wp2_with fail
      refine (CP.out _ hM4.out).mono ?_
      rintro e w5 ⟨rfl, hb⟩
      have hB5 := Lib.hid (hB4.out.trans (hb.mono hB4.out.size))
      have hR5 := Lib.hid (hR4.out.below hb hR4.out.lt)
      have hM5 := Lib.hid (hM4.out.keep hb)
      have hQ5 := Lib.hid (hQw.out.keep hb)
      have hb5 := Lib.hid (hbw.out.trans (hb.mono hbw.out.size))
      clear hb p0 p1 p2 hB4 hR4 hM4 hQw hbw
      have p0 := hR5.out.cell (j := 0) rfl
      have p1 := hR5.out.cell (j := 1) rfl
      have p2 := hR5.out.cell (j := 2) rfl
      by_cases hkN : k < N
      rotate_left
      · have tk : ¬ (k : Int) < (N : Int) := by omega
        obtain rfl : k = N := by omega
        clear hkN hk
        obtain ⟨A3, c3, hv, g1, g2, g3, g4⟩ := hQ5.out.mat
        subst hv
        have CR : Hid (∀ W, Below w5.heap.size w5 W → Calls Tryd.prog 63 #[.slice A3 (pcL d Gs t k).length c3, .int .i64 (d : Int)] W fun e w' => e = .returned (.int .i64 (rk7 d 0 (pcL d Gs t k) : Nat)) ∧ Below W.heap.size W w') := fun W hW => refRank7_any d c3 A3 (pcL d Gs t k) W ((g4.below hW).more hW.size) (fun r hr => by obtain ⟨_, _, _, rfl⟩ := pcL_mem.1 hr; exact crow_len _ _ _ _) (by have := pcL_len d t Gs k; omega) (by omega)
        have hfull : Hid (rk7 d 0 (pcL d Gs t k) = d ↔ Q) := by
          show _ ↔ _
          rw [rk7_full fun r hr => by obtain ⟨_, _, _, rfl⟩ := pcL_mem.1 hr; exact crow_len _ _ _ _]
          rw [hRQ.out t rfl]
          exact ⟨fun h => ⟨htl.out, h⟩, fun h => h.2⟩
        generalize rk7 d 0 (pcL d Gs t k) = rk at CR hfull
        generalize (pcL d Gs t k).length = pl at CR ⊢
        clear g1 g2 g3 g4 hQ5
        go_wp2_with fail
        refine wp_region_planM [] [(true, 0), (true, 1), (true, 2), (true, 4), (true, 5), (false, 3), (true, 6), (true, 7)] (by decide) (by kernel_rfl) (by kernel_rfl) (by decide) (by intro c a d v w h; cases d <;> exact h) ?_
        change wpPlanM _ _ _ _ _ _ w5.drew
        have hb : Below w5.heap.size w5 w5.drew := (Below.refl _ _).drew
        have CR2 := Lib.hid (CR.out _ hb)
        have hB6 := Lib.hid (hB5.out.trans (hb.mono hB5.out.size))
        have hR6 := Lib.hid (hR5.out.below hb hR5.out.lt)
        clear hb CR p0 p1 p2
        generalize hgd : w5.drew = wd at CR2 hB6 hR6 ⊢
        clear hgd
        have p0 := hR6.out.cell (j := 0) rfl
        have q0 : ∀ q : ExtOf wd, q.world.cell? ⟨w.heap.size, 0, none⟩ = some (.int .i64 (d : Int)) := fun q => (Blk.below hR6.out q.ext hR6.out.lt).cell (j := 0) rfl
        have hz : ((rk : Int) == (d : Int)) = decide (rk = d) := by
          rw [Bool.eq_iff_iff]; simp only [beq_iff_eq, decide_eq_true_iff]; omega
        iterate 5 (refine wpPlanM_plain rfl (fun K hK => ?_); go_simp; refine hK _ ?_; clear hK K)
        clear q0
        refine wpPlanM_call rfl (fun K hK => ?_)
        go_wp2_with fail
        refine CR2.out.mono ?_
        rintro e w9 ⟨rfl, hb⟩
        have hbp := Lib.hid hb
        have hB7 := Lib.hid (hB6.out.trans (hb.mono hB6.out.size))
        clear hb
        go_wp2_with fail
        refine planPostL_normal ⟨.inr hbp.out, hK _ _ ?_⟩
        clear hK K hbp
        iterate 2 (refine wpPlanM_plain rfl (fun K hK => ?_); go_simp; refine hK _ ?_; clear hK K)
        refine wpPlanM_nil ?_
        have hfin : Hid (decide (rk = d) = true ↔ Q) := by show _ ↔ _; rw [decide_eq_true_iff]; exact hfull.out
        generalize decide (rk = d) = bb at hfin ⊢
        go_wp2_with fail
        go_ret
        exact ⟨⟨bb, by first | rfl | (go_simp; done), hfin.out⟩, hB7.out⟩
      have tk : (k : Int) < (N : Int) := by omega
      have CI := Lib.hid fun W => in07_any t k W ht62 (by omega)
      go_wp2_with fail
      refine (CI.out _).mono ?_
      rintro e w6 ⟨rfl, rfl⟩
      cases hbit : t.testBit k with
      | false =>
        have hnx : Hid (OwnQ 0 w6 v2.heap.size u6 (pcL d Gs t (k + 1))) := by show OwnQ _ _ _ _ _; rw [pcL_no hbit]; exact hQ5.out
        clear hbit CI
        go_wp2_with fail
        go_roundw
        case rel => exact ⟨k + 1, by omega, by go_num, hnx, hb5⟩
        case measure => simp [intOf]; omega
      | true =>
        have hnx := Lib.hid (pcL_yes (D := d) (Gs := Gs) hbit)
        have CW := Lib.hid (row07_any d n c g k Gs A w6 hM5.out hd16 hn24 (by omega) hshH.out)
        unfold cdv at CW
        clear hbit CI
        go_wp2_with fail
        refine CW.out.mono ?_
        rintro e w7 ⟨vr, ⟨rfl, hu⟩, hb7⟩
        have hpos : 0 < w6.heap.size := Nat.lt_of_le_of_lt (Nat.zero_le _) hR5.out.lt
        have hoff := own_off hu hQ5.out hpos
        have ho4 := hQ5.out.keep hb7
        have hB4 := Lib.hid (hb5.out.trans (hb7.mono hb5.out.size))
        have hln : (pcL d Gs t k).length ≤ 1000000 := by have := pcL_len d t Gs k; omega
        have hsz4 : v2.heap.size ≤ w7.heap.size := hB4.out.size
        obtain ⟨Au, cu, rfl, _⟩ := hoff
        have hoff2 := own_off hu hQ5.out hpos
        clear hu hb7 CW p0 p1 p2 hpos
        go_wp2_with (at_builtin; go_must (refine push_q rfl _ _ rfl v2.heap.size _ (pcL d Gs t k) _ _ rfl rfl ho4 hoff2 hln hsz4 ?_); intro v' w8 ho5 hb8 hg5)
        have f1 : Hid (OwnQ 0 w8 v2.heap.size v' (pcL d Gs t (k + 1))) := by show OwnQ _ _ _ _ _; rw [hnx.out]; exact ho5
        have f2 := Lib.hid (hB4.out.trans hb8)
        clear ho5 hb8 hg5 ho4 hoff2
        go_roundw
        case rel => exact ⟨k + 1, by omega, by go_num, f1, f2⟩
        case measure => simp [intOf]; omega
end Go.Proofs.YtgajlgnniidgmaaDoor
