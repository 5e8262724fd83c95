/-
  The mathematics of acceptance: what the checks make of the proofs.
-/
import Derived.Test.YtlgokfgiemaklaaDoorMkb
namespace Go.Proofs.YtlgokfgiemaklaaDoor
set_option linter.unusedVariables false
set_option linter.unusedSimpArgs false
open Go.RowKit

theorem nx_at (A : List (List UInt8)) (r : List UInt8) (B : List (List UInt8)) (j : Nat) (h : j = A.length) : nx (A ++ r :: B) j = r := by
  subst h
  unfold nx
  rw [List.getD_eq_getElem?_getD, List.getElem?_append_right (Nat.le_refl _), Nat.sub_self]
  rfl
/-- Inclusion. -/
theorem clm_inc (N : Nat) : ∀ (L : List (List UInt8)) (i : Nat) (leaf : List UInt8) (pre post : List (List UInt8)), L.length ≤ N → L[i]? = some leaf →
    clm (pre ++ (inc L i ++ post)) leaf i L.length pre.length = (rt L, pre.length + (inc L i).length) := by
  induction N with
  | zero =>
    intro L i leaf pre post h hi
    obtain rfl : L = [] := List.eq_nil_of_length_eq_zero (by omega)
    simp at hi
  | succ N ih =>
    intro L i leaf pre post h hi
    have hlt := (List.getElem?_eq_some_iff.1 hi).1
    by_cases h2 : 2 ≤ L.length
    · have a := Mk.ksz_lt h2
      have b := Mk.ksz_pos L.length
      have e := rt_two h2
      by_cases hk : i < Mk.ksz L.length
      · have hinc : inc L i = inc (L.take (Mk.ksz L.length)) i ++ [rt (L.drop (Mk.ksz L.length))] := Mk.incl_left nd emp h2 hk
        have hl : (L.take (Mk.ksz L.length)).length = Mk.ksz L.length := by rw [List.length_take]; omega
        have := ih (L.take (Mk.ksz L.length)) i leaf pre (rt (L.drop (Mk.ksz L.length)) :: post) (by omega) (by rw [List.getElem?_take, if_pos hk]; exact hi)
        rw [hl] at this
        rw [clm_left _ _ _ h2 hk, hinc, List.append_assoc, List.singleton_append, this]
        simp only [List.length_append, List.length_cons, List.length_nil]
        rw [← List.append_assoc, nx_at _ _ _ _ (by simp), e]
        simp; omega
      · have hinc : inc L i = inc (L.drop (Mk.ksz L.length)) (i - Mk.ksz L.length) ++ [rt (L.take (Mk.ksz L.length))] := Mk.incl_right nd emp h2 hk
        have hl : (L.drop (Mk.ksz L.length)).length = L.length - Mk.ksz L.length := by rw [List.length_drop]
        have := ih (L.drop (Mk.ksz L.length)) (i - Mk.ksz L.length) leaf pre (rt (L.take (Mk.ksz L.length)) :: post) (by omega) (by rw [List.getElem?_drop, show Mk.ksz L.length + (i - Mk.ksz L.length) = i by omega]; exact hi)
        rw [hl] at this
        rw [clm_right _ _ _ h2 hk, hinc, List.append_assoc, List.singleton_append, this]
        simp only [List.length_append, List.length_cons, List.length_nil]
        rw [← List.append_assoc, nx_at _ _ _ _ (by simp), e]
        simp; omega
    · obtain ⟨d, rfl⟩ : ∃ d, L = [d] := List.length_eq_one_iff.1 (by omega)
      obtain rfl : i = 0 := by simp at hlt; exact hlt
      obtain rfl : d = leaf := by simpa using hi
      rw [clm_one _ _ _ _ (by simp)]
      have : inc [d] 0 = [] := Mk.incl_one nd emp (by simp) 0
      rw [this, rt_one]; rfl
theorem chI_inc {L : List (List UInt8)} {i : Nat} {leaf : List UInt8} (hi : L[i]? = some leaf) (h40 : L.length ≤ 1099511627776) : chI leaf i L.length (inQ L i) (rt L) = true := by
  have hlt := (List.getElem?_eq_some_iff.1 hi).1
  have h := clm_inc L.length L i leaf [] [] (Nat.le_refl _) hi
  simp only [List.nil_append, List.append_nil, List.length_nil, Nat.zero_add] at h
  have e : inQ L i = inc L i := by
    unfold inQ
    rw [if_pos (by omega)]
    rfl
  unfold chI
  rw [if_neg (by omega), e]
  show ((clm (inc L i) leaf i L.length 0).1 == rt L && (((clm (inc L i) leaf i L.length 0).2 : Int) == _)) = true
  rw [h]
  simp
/-- The root of the first ones. -/
theorem rt_take {L : List (List UInt8)} (h2 : 2 ≤ L.length) {m : Nat} (hm : m ≤ L.length) (hk : Mk.ksz L.length < m) :
    rt (L.take m) = nd (rt (L.take (Mk.ksz L.length))) (rt ((L.drop (Mk.ksz L.length)).take (m - Mk.ksz L.length))) := by
  have b := Mk.ksz_pos L.length
  have c := Mk.ksz_half h2
  have hl : (L.take m).length = m := by rw [List.length_take]; omega
  have hk' : Mk.ksz (L.take m).length = Mk.ksz L.length := by
    rw [hl]
    exact Mk.ksz_of (j := Nat.log2 (L.length - 1)) rfl hk (by omega)
  rw [rt_two (by omega), hk', List.take_take, show min (Mk.ksz L.length) m = Mk.ksz L.length by omega, List.drop_take]
/-- Consistency. -/
theorem csm_cs (N : Nat) : ∀ (L : List (List UInt8)) (m : Nat) (mark : Bool) (old : List UInt8) (pre post : List (List UInt8)), L.length ≤ N → 1 ≤ m → m ≤ L.length → (mark = true → old = rt (L.take m)) →
    csm (pre ++ (cs L m mark ++ post)) old m L.length mark pre.length = ((rt (L.take m), rt L), pre.length + (cs L m mark).length) := by
  induction N with
  | zero => intro L m mark old pre post h h1 h2; omega
  | succ N ih =>
    intro L m mark old pre post h h1 hm ho
    by_cases hmn : m = L.length
    · have hc : cs L m mark = if mark then [] else [rt L] := Mk.cons_all nd emp hmn mark
      have ht : L.take m = L := List.take_of_length_le (by omega)
      rw [ht] at ho ⊢
      cases mark with
      | true =>
        rw [hc, if_pos rfl, ← hmn, csm_true, ho rfl]; rfl
      | false =>
        rw [hc, if_neg (by simp), ← hmn, csm_false]
        rw [List.singleton_append, nx_at _ _ _ _ rfl]; rfl
    · have h2 : 2 ≤ L.length := by omega
      have a := Mk.ksz_lt h2
      have b := Mk.ksz_pos L.length
      have e := rt_two h2
      by_cases hk : m ≤ Mk.ksz L.length
      · have hcs : cs L m mark = cs (L.take (Mk.ksz L.length)) m mark ++ [rt (L.drop (Mk.ksz L.length))] := Mk.cons_left nd emp h2 hmn hk mark
        have hl : (L.take (Mk.ksz L.length)).length = Mk.ksz L.length := by rw [List.length_take]; omega
        have htt : (L.take (Mk.ksz L.length)).take m = L.take m := by rw [List.take_take, show min m (Mk.ksz L.length) = m by omega]
        have := ih (L.take (Mk.ksz L.length)) m mark old pre (rt (L.drop (Mk.ksz L.length)) :: post) (by omega) h1 (by omega) (by rw [htt]; exact ho)
        rw [hl, htt] at this
        rw [csm_left _ _ _ _ h2 (by omega) hk, hcs, List.append_assoc, List.singleton_append, this]
        simp only [List.length_append, List.length_cons, List.length_nil]
        rw [← List.append_assoc, nx_at _ _ _ _ (by simp), e]
        simp; omega
      · have hcs : cs L m mark = cs (L.drop (Mk.ksz L.length)) (m - Mk.ksz L.length) false ++ [rt (L.take (Mk.ksz L.length))] := Mk.cons_right nd emp h2 hmn hk mark
        have hl : (L.drop (Mk.ksz L.length)).length = L.length - Mk.ksz L.length := by rw [List.length_drop]
        have := ih (L.drop (Mk.ksz L.length)) (m - Mk.ksz L.length) false old pre (rt (L.take (Mk.ksz L.length)) :: post) (by omega) (by omega) (by omega) (fun h => by cases h)
        rw [hl] at this
        rw [csm_right _ _ _ _ h2 (by omega) hk, hcs, List.append_assoc, List.singleton_append, this]
        simp only [List.length_append, List.length_cons, List.length_nil]
        rw [← List.append_assoc, nx_at _ _ _ _ (by simp), e, rt_take h2 hm (by omega)]
        simp; omega
/-- Unmarked, the old root is not read. -/
theorem csm_free (N : Nat) : ∀ (path : List (List UInt8)) (o1 o2 : List UInt8) (m n j : Nat), n ≤ N → 1 ≤ m → m ≤ n → csm path o1 m n false j = csm path o2 m n false j := by
  induction N with
  | zero => intro path o1 o2 m n j h h1 h2; omega
  | succ N ih =>
    intro path o1 o2 m n j h h1 hm
    by_cases hmn : m = n
    · subst hmn; rw [csm_false, csm_false]
    · have h2 : 2 ≤ n := by omega
      have a := Mk.ksz_lt h2
      have b := Mk.ksz_pos n
      by_cases hk : m ≤ Mk.ksz n
      · rw [csm_left _ _ _ _ h2 (by omega) hk, csm_left _ _ _ _ h2 (by omega) hk, ih path o1 o2 m (Mk.ksz n) j (by omega) h1 hk]
      · rw [csm_right _ _ _ _ h2 (by omega) hk, csm_right _ _ _ _ h2 (by omega) hk, ih path o1 o2 (m - Mk.ksz n) (n - Mk.ksz n) j (by omega) (by omega) (by omega)]
/-- Marked, it is read for powers of 2 alone, and for all. -/
theorem csm_mark (N : Nat) : ∀ (path : List (List UInt8)) (o1 o2 : List UInt8) (m n j : Nat), n ≤ N → 1 ≤ m → m < n → (∀ q, m ≠ 2 ^ q) → csm path o1 m n true j = csm path o2 m n true j := by
  induction N with
  | zero => intro path o1 o2 m n j h h1 h2; omega
  | succ N ih =>
    intro path o1 o2 m n j h h1 hm hp
    have h2 : 2 ≤ n := by omega
    have a := Mk.ksz_lt h2
    have b := Mk.ksz_pos n
    by_cases hk : m ≤ Mk.ksz n
    · have hne : m ≠ Mk.ksz n := hp (Nat.log2 (n - 1))
      rw [csm_left _ _ _ _ h2 (by omega) hk, csm_left _ _ _ _ h2 (by omega) hk, ih path o1 o2 m (Mk.ksz n) j (by omega) h1 (by omega) hp]
    · rw [csm_right _ _ _ _ h2 (by omega) hk, csm_right _ _ _ _ h2 (by omega) hk, csm_free _ path o1 o2 (m - Mk.ksz n) (n - Mk.ksz n) j (Nat.le_refl _) (by omega) (by omega)]
theorem csQ_eq {L : List (List UInt8)} {m : Nat} (h1 : 1 ≤ m) (hm : m ≤ L.length) : csQ L m = cs L m true := by
  unfold csQ
  rw [if_pos (by omega)]
  rfl
/-- CheckConsistency of the proof, with any old root and any root. -/
theorem chC_cs {L : List (List UInt8)} {m : Nat} (hm : m ≤ L.length) (h40 : L.length ≤ 1099511627776) (r : List UInt8) : chC m L.length (rt (L.take m)) r (csQ L m) = (if m = 0 then true else r == rt L) := by
  unfold chC
  rw [if_neg (by omega)]
  by_cases h0 : m = 0
  · subst h0
    have e : csQ L ((0 : Nat) : Int) = [] := by
      unfold csQ
      rw [if_neg (by omega)]
    rw [if_pos (show ((0 : Nat) : Int) = 0 from rfl), e, if_pos (show ([] : List (List UInt8)).length = 0 from rfl), if_pos rfl, List.take_zero, rt_nil]
    simp
  · rw [if_neg (by omega), if_neg h0, csQ_eq (by omega) hm]
    have h := csm_cs L.length L m true (rt (L.take m)) [] [] (Nat.le_refl _) (by omega) hm (fun _ => rfl)
    simp only [List.nil_append, List.append_nil, List.length_nil, Nat.zero_add] at h
    show ((((csm (cs L m true) (rt (L.take m)) m L.length true 0).1.1 == rt (L.take m)) && ((csm (cs L m true) (rt (L.take m)) m L.length true 0).1.2 == r)) && (((csm (cs L m true) (rt (L.take m)) m L.length true 0).2 : Int) == ((cs L m true).length : Int))) = (r == rt L)
    rw [h]
    have hc : (rt L == r) = (r == rt L) := by
      by_cases h : rt L = r
      · rw [h]
      · rw [beq_eq_false_iff_ne.2 h, beq_eq_false_iff_ne.2 (Ne.symm h)]
    simp [hc]
theorem chC_other {L : List (List UInt8)} {m : Nat} (hm : m ≤ L.length) (h40 : L.length ≤ 1099511627776) (hp : m = L.length ∨ ∀ q, m ≠ 2 ^ q) (o : List UInt8) : chC m L.length o (rt L) (csQ L m) = (o == rt (L.take m)) := by
  unfold chC
  rw [if_neg (by omega)]
  by_cases h0 : m = 0
  · subst h0
    have e : csQ L ((0 : Nat) : Int) = [] := by
      unfold csQ
      rw [if_neg (by omega)]
    rw [if_pos (show ((0 : Nat) : Int) = 0 from rfl), e, if_pos (show ([] : List (List UInt8)).length = 0 from rfl), List.take_zero, rt_nil]
  · rw [if_neg (by omega), csQ_eq (by omega) hm]
    show ((((csm (cs L m true) o m L.length true 0).1.1 == o) && ((csm (cs L m true) o m L.length true 0).1.2 == rt L)) && (((csm (cs L m true) o m L.length true 0).2 : Int) == ((cs L m true).length : Int))) = (o == rt (L.take m))
    by_cases hmn : m = L.length
    · have hc : cs L m true = [] := Mk.cons_all nd emp hmn true
      rw [hc, ← hmn, csm_true, List.take_of_length_le (by omega)]
      simp
    · have hp' := hp.resolve_left hmn
      have h := csm_cs L.length L m true (rt (L.take m)) [] [] (Nat.le_refl _) (by omega) hm (fun _ => rfl)
      simp only [List.nil_append, List.append_nil, List.length_nil, Nat.zero_add] at h
      rw [csm_mark L.length (cs L m true) o (rt (L.take m)) m L.length 0 (Nat.le_refl _) (by omega) (by omega) hp', h]
      have hc : (rt (L.take m) == o) = (o == rt (L.take m)) := by
        by_cases h : rt (L.take m) = o
        · rw [h]
        · rw [beq_eq_false_iff_ne.2 h, beq_eq_false_iff_ne.2 (Ne.symm h)]
      simp [hc]
/-- Which places come before a number. -/
theorem bel_iff (t : Int) : ∀ (ps : List Int), Asc ps → ∀ (i : Nat) (a : Int), ps[i]? = some a → (i < bel ps t ↔ a < t)
  | [], _, i, a, h => by simp at h
  | p :: ps, hA, i, a, h => by
    have hA' : Asc ps := fun i j x y hij hx hy => hA (i + 1) (j + 1) x y (by omega) hx hy
    unfold bel
    rw [List.takeWhile_cons]
    by_cases hp : p < t
    · rw [if_pos (by simpa using hp), List.length_cons]
      cases i with
      | zero =>
        obtain rfl : p = a := by simpa using h
        simp [hp]
      | succ i =>
        have := bel_iff t ps hA' i a (by simpa using h)
        unfold bel at this
        rw [← this]; omega
    · rw [if_neg (by simpa using hp), List.length_nil]
      have : ¬ a < t := by
        cases i with
        | zero =>
          obtain rfl : p = a := by simpa using h
          exact hp
        | succ i =>
          have := hA 0 (i + 1) p a (by omega) rfl h
          omega
      constructor
      · intro h; omega
      · intro h; exact absurd h this
/-- Many. -/
theorem wlk_mny (N : Nat) : ∀ (o : Nat) (L : List (List UInt8)) (ps : List Int) (F pre post : List (List UInt8)), L.length ≤ N → 1 ≤ L.length → Asc ps → F.length = ps.length → (∀ (i : Nat) (a : Int), ps[i]? = some a → (o : Int) ≤ a ∧ a < ((o + L.length : Nat) : Int) ∧ F[i]? = L[(a - o).toNat]?) →
    wlk (pre ++ (mny o L ps ++ post)) o L.length ps F pre.length = (rt L, pre.length + (mny o L ps).length) := by
  induction N with
  | zero => intro o L ps F pre post h h1; omega
  | succ N ih =>
    intro o L ps F pre post h h1 hA hF hps
    by_cases hp : ps = []
    · subst hp
      rw [wlk_nil, mny_nil, List.singleton_append, nx_at _ _ _ _ rfl]; rfl
    by_cases h2 : 2 ≤ L.length
    · have a := Mk.ksz_lt h2
      have b := Mk.ksz_pos L.length
      have e := rt_two h2
      have hm := mny_two o h2 hp
      obtain ⟨k, hk⟩ : ∃ k, k = Mk.ksz L.length := ⟨_, rfl⟩
      obtain ⟨u, hu⟩ : ∃ u, u = bel ps ((o + k : Nat) : Int) := ⟨_, rfl⟩
      have hble := bel_le ps ((o + k : Nat) : Int)
      rw [← hu] at hble
      rw [← hk] at hm e a b
      rw [← hu] at hm
      have hl1 : (L.take k).length = k := by rw [List.length_take]; omega
      have hl2 : (L.drop k).length = L.length - k := by rw [List.length_drop]
      have hb := bel_iff ((o + k : Nat) : Int) ps hA
      rw [← hu] at hb
      have i1 := ih o (L.take k) (ps.take u) (F.take u) pre (mny (o + k) (L.drop k) (ps.drop u) ++ post) (by omega) (by omega) (hA.take u) (by rw [List.length_take, List.length_take, hF]) (fun i x hx => by
        rw [List.getElem?_take] at hx
        split at hx
        · rename_i hiu
          obtain ⟨g1, g2, g3⟩ := hps i x hx
          have g4 := (hb i x hx).1 hiu
          refine ⟨g1, by rw [hl1]; exact g4, ?_⟩
          rw [List.getElem?_take, if_pos hiu, g3, List.getElem?_take, if_pos (by omega)]
        · cases hx)
      have i2 := ih (o + k) (L.drop k) (ps.drop u) (F.drop u) (pre ++ mny o (L.take k) (ps.take u)) post (by omega) (by omega) (hA.drop u) (by rw [List.length_drop, List.length_drop, hF]) (fun i x hx => by
        rw [List.getElem?_drop] at hx
        obtain ⟨g1, g2, g3⟩ := hps (u + i) x hx
        have g4 : ¬ x < ((o + k : Nat) : Int) := fun h => by have := (hb (u + i) x hx).2 h; omega
        refine ⟨by omega, by rw [hl2]; omega, ?_⟩
        rw [List.getElem?_drop, g3, List.getElem?_drop, show k + (x - ((o + k : Nat) : Int)).toNat = (x - (o : Int)).toNat by omega])
      rw [hl1] at i1
      rw [hl2] at i2
      rw [wlk_two _ o F _ hp h2 hk hu, hm]
      rw [List.append_assoc, i1]
      rw [List.length_append, List.append_assoc] at i2
      simp only
      rw [i2, e]
      simp; omega
    · obtain ⟨d, rfl⟩ : ∃ d, L = [d] := List.length_eq_one_iff.1 (by omega)
      rw [wlk_one _ _ _ _ hp (by simp), mny_one o (by simp) hp, rt_one]
      obtain ⟨p, hp0⟩ : ∃ p, ps[0]? = some p := ⟨_, List.getElem?_eq_getElem (List.length_pos_iff.2 hp)⟩
      obtain ⟨g1, g2, g3⟩ := hps 0 p hp0
      have : F.getD 0 z16 = d := by
        rw [List.getD_eq_getElem?_getD, g3, show (p - (o : Int)).toNat = 0 by simp at g2; omega]
        rfl
      rw [this]; rfl
theorem chM_mn {L : List (List UInt8)} {ps : List Int} {F : List (List UInt8)} (h1 : 1 ≤ L.length) (h40 : L.length ≤ 1099511627776) (hA : ascGo L.length 0 ps = true) (hF : F.length = ps.length) (hps : ∀ (i : Nat) (a : Int), ps[i]? = some a → F[i]? = L[a.toNat]?) : chM L.length ps F (mnQ L ps) (rt L) = true := by
  obtain ⟨ha, hin⟩ := ascGo_asc hA
  have h := wlk_mny L.length 0 L ps F [] [] (Nat.le_refl _) h1 ha hF (fun i a hi => by
    obtain ⟨g1, g2⟩ := hin a (List.mem_of_getElem? hi)
    refine ⟨by omega, by omega, ?_⟩
    rw [hps i a hi]
    simp)
  simp only [List.nil_append, List.append_nil, List.length_nil, Nat.zero_add] at h
  have e : mnQ L ps = mny 0 L ps := by unfold mnQ; rw [if_pos ⟨hA, h1⟩]
  unfold chM
  rw [if_neg (by simp [hA, hF]; omega), if_neg (by omega), e]
  show ((wlk (mny 0 L ps) 0 L.length ps F 0).1 == rt L && (((wlk (mny 0 L ps) 0 L.length ps F 0).2 : Int) == _)) = true
  rw [h]
  simp
end Go.Proofs.YtlgokfgiemaklaaDoor
