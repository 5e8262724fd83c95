/-
  Stage 12: small facts for the walk of RiskOfCopies.
-/
import Derived.Test.YtgajlgnniidgmaaDoorYk
import Derived.Test.YtgajlgnniidgmaaDoorYi
import Derived.Test.YtgajlgnniidgmaaDoorYd
namespace Go.Proofs.YtgajlgnniidgmaaDoor
set_option linter.unusedVariables false
set_option linter.unusedSimpArgs false
open Go.RowKit Go.Maps

theorem wrap_b8_12 {a : Nat} (h : a < 256) : IntKind.i64.wrap (a : Int) = (a : Int) := by rw [IntKind.wrap_i64]; omega
theorem rem17_12 (x : Nat) : ∃ r : Nat, r = x % 17 ∧ r < 17 ∧ Int.tmod (x : Int) 17 = (r : Int) := ⟨x % 17, rfl, Nat.mod_lt _ (by decide), by rw [Int.tmod_eq_emod_of_nonneg (Int.natCast_nonneg _)]; omega⟩
theorem take_next12 {l : List Nat} {k x : Nat} (h : l[k]? = some x) : l.take (k + 1) = l.take k ++ [x] := by rw [List.take_add_one, h]; rfl
theorem wrap_small12 {x : Nat} (h : x ≤ 1000000) : IntKind.i64.wrap (x : Int) = (x : Int) := by rw [IntKind.wrap_i64]; omega
/-- A row of numbers of the call's own, as integers. -/
theorem own_ints12 {w : World} {base : Nat} {v : Value} {l : List Nat} (h : OwnP w base v l) : w.ownsRow base 3 1 v l.length ((l.map fun x : Nat => (x : Int)).map iv) := by
  have e : (l.map fun x : Nat => (x : Int)).map iv = l.map pv := by rw [List.map_map]; rfl
  rw [e]
  exact h
theorem own_rds12 {w : World} {base n c : Nat} {A : Option Addr} {l : List Nat} (h : OwnP w base (.slice A n c) l) : Rds w w.heap.size A ((l.map fun x : Nat => (x : Int)).map iv) := by
  obtain ⟨A', c', hv, _, _, _, hr⟩ := own_form (own_ints12 h)
  injection hv with h1 h2 h3
  rw [h1]
  exact hr
theorem OwnP.only12 {w w' : World} {base x : Nat} {v : Value} {l : List Nat} (h : OwnP w base v l) (ho : Only x w w') (hx : x < base) : OwnP w' base v l := own_only12 h ho hx
theorem OwnP.keep12 {w w' : World} {base : Nat} {v : Value} {l : List Nat} (h : OwnP w base v l) (hb : Below w.heap.size w w') : OwnP w' base v l := own_keep12 h hb
theorem OwnP.grown12 {w w' : World} {base : Nat} {v : Value} {l : List Nat} {row : Option Nat} (h : OwnP w base v l) (hg : w.grownBy w' row) (hne : ∀ g, v.ownBlock = some g → row ≠ some g) : OwnP w' base v l := by
  refine ⟨h.1, ?_⟩
  rcases h.2 with hn | ⟨g, cap, cur, rfl, hgb, hh, rest⟩
  · exact .inl hn
  · exact .inr ⟨g, cap, cur, rfl, hgb, by rw [hg.block g (Array.getElem?_eq_some_iff.1 hh).1 (fun e => hne g rfl e.symm)]; exact hh, rest⟩
theorem Blk.grown12 {w w' : World} {g : Nat} {L : List Value} {t : TypeId} {row : Option Nat} (h : Blk w g L t) (hg : w.grownBy w' row) (hne : row ≠ some g) : Blk w' g L t := (hg.block g h.lt (fun e => hne e.symm)).trans h
theorem OwnP.slice12 {w : World} {base : Nat} {v : Value} {l : List Nat} (h : OwnP w base v l) : ∃ A c, v = .slice A l.length c ∧ (A = none → c = 0) := by
  obtain ⟨A, c, hv, _, _, h3, _⟩ := own_form h
  exact ⟨A, c, hv, h3⟩
/-- The set of domains that have a copy. -/
def HasS (h : Nat) (l : List Nat) : Prop := ∀ i, h.testBit i = true ↔ ∃ d ∈ l, d = i
theorem HasS.nil : HasS 0 [] := fun i => by rw [Nat.zero_testBit]; simp
theorem HasS.next {h d : Nat} {l : List Nat} (hh : HasS h l) : HasS (h ||| 2 ^ d) (l ++ [d]) := fun i => by
  rw [Nat.testBit_or, Nat.testBit_two_pow, Bool.or_eq_true, decide_eq_true_eq, hh i]
  constructor
  · rintro (⟨x, hx, rfl⟩ | rfl)
    · exact ⟨x, List.mem_append_left _ hx, rfl⟩
    · exact ⟨d, by simp, rfl⟩
  · rintro ⟨x, hx, rfl⟩
    rcases List.mem_append.1 hx with hx | hx
    · exact .inl ⟨x, hx, rfl⟩
    · exact .inr (List.mem_singleton.1 hx).symm
theorem or_set12 {h d : Nat} (hh : h < 512) (hd : d < 9) : ∃ P h2 : Nat, wrap64 ((2 : Int) ^ d) = (P : Int) ∧ IntKind.i64.wrap ((2 : Int) ^ d) = (P : Int) ∧ bits BinOp.or IntKind.i64 (h : Int) (P : Int) = (h2 : Int) ∧ h2 < 512 ∧ h2 = h ||| 2 ^ d := by
  obtain ⟨P, hP, hP4, hP1, hP2⟩ := pow_facts12 (d := d) (by omega)
  refine ⟨P, h ||| 2 ^ d, hP1, hP2, ?_, Nat.or_lt_two_pow (n := 9) hh (Nat.pow_lt_pow_right (by decide) hd), rfl⟩
  rw [← hP]
  exact i64_or _ _ (by omega) (by omega)
theorem cpy_rng12 {u c : Int} {k : Nat} (hk : k < 9) (h0 : 0 ≤ u) (h1 : u ≤ 16 ^ k) (hc : 0 ≤ c ∧ c ≤ 16) : 0 ≤ u * c ∧ u * c ≤ 16 ^ (k + 1) ∧ IntKind.i64.wrap (u * c) = u * c := by
  obtain ⟨m0, m1⟩ := mul16 h0 h1 hc.1 hc.2
  have := p16 (k := k + 1) (by omega)
  exact ⟨m0, m1, wrap12r m0 (by omega)⟩
theorem pow_next12 {c : Int} {k : Nat} (hc : 0 ≤ c ∧ c ≤ 16) (hk : k < 9) : c * 16 ^ k * 16 = c * 16 ^ (k + 1) ∧ IntKind.i64.wrap (c * 16 ^ (k + 1)) = c * 16 ^ (k + 1) := by
  refine ⟨by rw [Int.mul_assoc, ← Int.pow_succ], ?_⟩
  have h1 : (0 : Int) ≤ 16 ^ (k + 1) := Int.le_of_lt (Int.pow_pos (by omega))
  have h2 : c * 16 ^ (k + 1) ≤ 16 * 16 ^ (k + 1) := Int.mul_le_mul_of_nonneg_right hc.2 h1
  have h3 : (16 : Int) * 16 ^ (k + 1) = 16 ^ (k + 2) := by rw [Int.mul_comm, ← Int.pow_succ]
  have h4 := p16 (k := k + 2) (by omega)
  exact wrap12r (Int.mul_nonneg hc.1 h1) (by omega)
section
variable {P : Program} {ops : Array Oper} {Q : Exit → Act → World → Prop} {md : Region.Mode} {Ls : List Nat}
def planOkM8 (md : Region.Mode) (ops : Array Oper) (Ls : List Nat) : List (Bool × Nat) → Array Bool → Bool
  | [], listed => (Region.ready md ops listed).isEmpty
  | (true, i) :: rest, listed => !Ls.contains i && (Ls.all fun l => listed.getD l false || (closure md ops 8 (waits md ops l)).contains i) && Region.free md ops listed i && (Region.ready md ops listed).contains i && planOkM8 md ops Ls rest (listed.setIfInBounds i true)
  | (false, i) :: rest, listed => (Region.ready md ops listed == [i]) && planOkM8 md ops Ls rest (listed.setIfInBounds i true)

theorem wpAnyM8_of_plan (hs : Region.noSelect ops = true) (hQ : ∀ c a d v w, Q (.panic c) (Act.put a d v) w → Q (.panic c) a w) : ∀ (plan : List (Bool × Nat)) (fuel : Nat) (listed : Array Bool) (a : Act) (w : World), listed.size = ops.size → ClosedL md ops listed →
    planOkM8 md ops Ls plan listed = true → plan.length ≤ fuel → wpPlanM P ops Q Ls plan a w → wpAnyM P md ops Q Ls fuel listed a w
  | [], fuel, listed, a, w, hsz, hcl, hp, _, h => by
    have hr : Region.ready md ops listed = [] := by simpa [planOkM8] using hp
    cases fuel with
    | zero => exact ⟨hr, h⟩
    | succ n => exact ⟨fun _ => h, by rw [hr]; simp⟩
  | (true, i) :: rest, fuel, listed, a, w, hsz, hcl, hp, hf, h => by
    cases fuel with
    | zero => simp at hf
    | succ fuel =>
      simp only [planOkM8, Bool.and_eq_true, Bool.not_eq_true', List.all_eq_true, Bool.or_eq_true, List.contains_iff_mem] at hp
      obtain ⟨⟨⟨⟨hne0, hL⟩, hfree⟩, hready⟩, hrest⟩ := hp
      have hne : i ∉ Ls := fun hm => by
        have : Ls.contains i = true := by simpa using hm
        rw [this] at hne0
        cases hne0
      have hL' : ∀ l ∈ Ls, listed.getD l false = true ∨ ∃ n, i ∈ closure md ops n (waits md ops l) := fun l hl => (hL l hl).imp id fun h => ⟨8, h⟩
      unfold wpPlanM at h
      split at h
      · exact h.elim
      · rename_i o ho
        split at h
        · rename_i hw
          obtain ⟨v, hv, hk⟩ := h
          exact wpAnyM_first ho (Region.noSelect_spec hs) (fun c a w => hQ c a _ _ w) hne fuel listed a w hsz hcl hL' (Region.free_spec ho hfree) hready (.inl ⟨hw, fun W hW => hv ⟨W, hW⟩⟩)
            (wpAnyM8_of_plan hs hQ rest fuel _ _ _ (by rw [Array.size_setIfInBounds]; exact hsz) (hcl.set hready) hrest (by simpa using hf) hk)
        · rename_i hw
          exact wpAnyM_first ho (Region.noSelect_spec hs) (fun c a w => hQ c a _ _ w) hne fuel listed a w hsz hcl hL' (Region.free_spec ho hfree) hready (.inr ⟨by simpa using hw, rfl⟩)
            (wpAnyM8_of_plan hs hQ rest fuel _ _ _ (by rw [Array.size_setIfInBounds]; exact hsz) (hcl.set hready) hrest (by simpa using hf) h)
  | (false, i) :: rest, fuel, listed, a, w, hsz, hcl, hp, hf, h => by
    cases fuel with
    | zero => simp at hf
    | succ fuel =>
      simp only [planOkM8, Bool.and_eq_true, beq_iff_eq] at hp
      obtain ⟨hr, hrest⟩ := hp
      refine ⟨fun h0 => (by rw [hr] at h0; cases h0), fun j hj => ?_⟩
      have hj' := hj
      rw [hr] at hj
      obtain rfl : j = i := by simpa using hj
      unfold wpPlanM at h
      unfold wpOp
      cases ho : ops[j]? with
      | none => simp [ho] at h
      | some o =>
        simp only [ho] at h ⊢
        unfold wpList at h
        have hgo : ∀ a' w', planPostL (j ∈ Ls) Q w (wpPlanM P ops Q Ls rest) .normal a' w' → (j ∈ Ls ∨ Ext w w') ∧ wpAnyM P md ops Q Ls fuel (listed.setIfInBounds j true) a' w' := fun a' w' hh =>
          ⟨hh.1, wpAnyM8_of_plan hs hQ rest fuel _ _ _ (by rw [Array.size_setIfInBounds]; exact hsz) (hcl.set hj') hrest (by simpa using hf) hh.2⟩
        split
        · rename_i hw
          simp only [hw, if_true] at h
          have hlets : LetsOut (planPostL (j ∈ Ls) Q w (wpPlanM P ops Q Ls rest)) → LetsOut Q := fun ⟨a', w', hh⟩ => ⟨a', w', hh⟩
          rcases h with h | ⟨h1, h2⟩
          · exact .inl (Oper.wp_mono (fun a' w' hh => hgo a' w' hh) (Oper.wp_conv (fun _ _ _ hh => hh) hlets h))
          · exact .inr ⟨h1, hlets h2⟩
        · rename_i hw
          simp only [hw] at h
          exact hgo _ _ h

theorem wp_region_planM8 {id : Nat} {a : Act} {w : World} (Ls : List Nat) (plan : List (Bool × Nat)) (hm : P.follows .mixedOrders = true) (hs : Region.noSelect ops = true) (hp : planOkM8 .any ops Ls plan (Array.replicate ops.size false) = true) (hl : plan.length ≤ ops.size)
    (hQ : ∀ c a d v w, Q (.panic c) (Act.put a d v) w → Q (.panic c) a w)
    (h : wpPlanM P ops Q Ls plan a { w with drawn := w.drawn + 1 }) : (Code.region id ops true).wp P Q a w :=
  wp_region_any hm (wpAny_of_M _ _ _ _ (wpAnyM8_of_plan hs hQ plan _ _ _ _ (by simp) (fun j oj _ hl => by
    have : (Array.replicate ops.size false).getD j false = false := by
      by_cases h : j < ops.size <;> simp [h]
    rw [this] at hl; cases hl) hp hl h))
end
end Go.Proofs.YtgajlgnniidgmaaDoor
