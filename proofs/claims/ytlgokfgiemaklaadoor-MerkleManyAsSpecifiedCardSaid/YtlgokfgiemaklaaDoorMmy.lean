/-
  The mathematics of ManyAsSpecified: the places within a part, and the walk from the rest of a path.
-/
import Derived.Test.YtlgokfgiemaklaaDoorMkb
import Derived.Test.YtlgokfgiemaklaaDoorRwf
namespace Go.Proofs.YtlgokfgiemaklaaDoor
set_option linter.unusedVariables false
set_option linter.unusedSimpArgs false
open Go.RowKit

theorem bel_cons (p : Int) (ps : List Int) (t : Int) : bel (p :: ps) t = if p < t then bel ps t + 1 else 0 := by
  unfold bel
  rw [List.takeWhile_cons]
  by_cases h : p < t <;> simp [h]
theorem Asc.tail {p : Int} {ps : List Int} (h : Asc (p :: ps)) : Asc ps := fun i j a b hij ha hb => h (i + 1) (j + 1) a b (by omega) (by simpa using ha) (by simpa using hb)
theorem Asc.head {p : Int} {ps : List Int} (h : Asc (p :: ps)) : ∀ q ∈ ps, p < q := fun q hq => by
  obtain ⟨j, hj⟩ := List.getElem?_of_mem hq
  exact h 0 (j + 1) p q (by omega) rfl (by simpa using hj)
theorem Asc.cons {p : Int} {ps : List Int} (h : ∀ q ∈ ps, p < q) (k : Asc ps) : Asc (p :: ps) := fun i j a b hij ha hb => by
  cases j with
  | zero => omega
  | succ j =>
    have hb' : ps[j]? = some b := by simpa using hb
    cases i with
    | zero =>
      obtain rfl : p = a := by simpa using ha
      exact h b (List.mem_of_getElem? hb')
    | succ i => exact k i j a b (by omega) (by simpa using ha) hb'
theorem asc_nil : Asc [] := fun i j a b _ h => by simp at h
theorem wth_cons (f t p : Int) (ps : List Int) : wth f t (p :: ps) = if f ≤ p ∧ p < t then p :: wth f t ps else wth f t ps := by
  unfold wth
  rw [List.filter_cons]
  by_cases h : f ≤ p ∧ p < t
  · rw [if_pos h, if_pos (by simp [h.1, h.2])]
  · rw [if_neg h, if_neg (by simpa using h)]
theorem wth_mem {f t p : Int} {ps : List Int} (h : p ∈ wth f t ps) : p ∈ ps ∧ f ≤ p ∧ p < t := by
  unfold wth at h
  rw [List.mem_filter] at h
  simpa using h
theorem wth_none {f t : Int} : ∀ {ps : List Int}, (∀ p ∈ ps, t ≤ p) → wth f t ps = []
  | [], _ => rfl
  | p :: ps, h => by
    rw [wth_cons, if_neg (by have := h p (by simp); omega)]
    exact wth_none fun q hq => h q (by simp [hq])
theorem wth_all {f t : Int} : ∀ {ps : List Int}, (∀ p ∈ ps, f ≤ p ∧ p < t) → wth f t ps = ps
  | [], _ => rfl
  | p :: ps, h => by
    rw [wth_cons, if_pos (h p (by simp)), wth_all fun q hq => h q (by simp [hq])]
theorem wth_take {f t : Int} : ∀ {ps : List Int}, Asc ps → (∀ p ∈ ps, f ≤ p) → wth f t ps = ps.take (bel ps t)
  | [], _, _ => by simp [wth]
  | p :: ps, ha, hf => by
    rw [wth_cons, bel_cons]
    by_cases h : p < t
    · rw [if_pos ⟨hf p (by simp), h⟩, if_pos h, List.take_succ_cons, wth_take ha.tail fun q hq => hf q (by simp [hq])]
    · rw [if_neg (fun hh => h hh.2), if_neg h, List.take_zero]
      exact wth_none fun q hq => by have := ha.head q hq; omega
theorem wth_drop {t u : Int} : ∀ {ps : List Int}, Asc ps → (∀ p ∈ ps, p < u) → wth t u ps = ps.drop (bel ps t)
  | [], _, _ => by simp [wth]
  | p :: ps, ha, hu => by
    rw [wth_cons, bel_cons]
    by_cases h : p < t
    · rw [if_neg (by omega), if_pos h, List.drop_succ_cons, wth_drop ha.tail fun q hq => hu q (by simp [hq])]
    · rw [if_pos ⟨by omega, hu p (by simp)⟩, if_neg h, List.drop_zero, wth_all fun q hq => ⟨by have := ha.head q hq; omega, hu q (by simp [hq])⟩]
theorem wth_asc {f t : Int} : ∀ {ps : List Int}, Asc ps → Asc (wth f t ps)
  | [], _ => asc_nil
  | p :: ps, ha => by
    rw [wth_cons]
    split
    · exact Asc.cons (fun q hq => ha.head q (wth_mem hq).1) (wth_asc ha.tail)
    · exact wth_asc ha.tail
theorem wth_in {f t : Int} {ps : List Int} : ∀ p ∈ wth f t ps, f ≤ p ∧ p < t := fun p hp => (wth_mem hp).2
theorem asc_one {ps : List Int} {o : Int} (ha : Asc ps) (h : ∀ p ∈ ps, o ≤ p ∧ p < o + 1) (hne : ps ≠ []) : ps.length = 1 := by
  match ps, hne with
  | [p], _ => rfl
  | p :: q :: ps, _ =>
    have h1 := h p (by simp)
    have h2 := h q (by simp)
    have h3 := ha.head q (by simp)
    omega
theorem nx_drop (path : List (List UInt8)) (j i : Nat) : nx (path.drop j) i = nx path (j + i) := by
  unfold nx
  rw [List.getD_eq_getElem?_getD, List.getD_eq_getElem?_getD, List.getElem?_drop]
/-- The walk from a place of the path is the walk of the rest. -/
theorem wlk_shift (path : List (List UInt8)) (j N : Nat) : ∀ (o n : Nat) (ps : List Int) (F : List (List UInt8)) (i : Nat), n ≤ N → wlk path o n ps F (j + i) = ((wlk (path.drop j) o n ps F i).1, j + (wlk (path.drop j) o n ps F i).2) := by
  induction N with
  | zero =>
    intro o n ps F i h
    by_cases hp : ps = []
    · subst hp; rw [wlk_nil, wlk_nil, nx_drop]; rfl
    · rw [wlk_one _ _ _ _ hp (by omega), wlk_one _ _ _ _ hp (by omega)]
  | succ N ih =>
    intro o n ps F i h
    by_cases hp : ps = []
    · subst hp; rw [wlk_nil, wlk_nil, nx_drop]; rfl
    · by_cases h2 : 2 ≤ n
      · have a := Mk.ksz_lt h2
        have b := Mk.ksz_pos n
        rw [wlk_two _ _ _ _ hp h2 rfl rfl, wlk_two (path.drop j) _ _ _ hp h2 rfl rfl]
        rw [ih o _ _ _ i (by omega)]
        rw [ih _ _ _ _ _ (by omega)]
      · rw [wlk_one _ _ _ _ hp (by omega), wlk_one _ _ _ _ hp (by omega)]
theorem wlk_rest (path : List (List UInt8)) (j o n : Nat) (ps : List Int) (F : List (List UInt8)) : wlk path o n ps F j = ((wlk (path.drop j) o n ps F 0).1, j + (wlk (path.drop j) o n ps F 0).2) := by
  have := wlk_shift path j n o n ps F 0 (Nat.le_refl _)
  rwa [Nat.add_zero] at this
/-- What the walk of the specification returns. -/
structure WR (Q : List (List UInt8)) (k : Nat) (r : List UInt8 × Nat) (D : List UInt8) (f p : Nat) (g : Bool) : Prop where
  ok : g = decide (r.2 ≤ Q.length)
  d : g = true → D = r.1 ∧ p = r.2 ∧ f = k
  len : D.length = 16
  fle : f ≤ k
  ple : p ≤ Q.length
theorem WR.chk {Q : List (List UInt8)} {k : Nat} {r : List UInt8 × Nat} {D root : List UInt8} {f p : Nat} {b : Bool} (h : WR Q k r D f p b) : ((b && (p : Int) == (Q.length : Int)) && D == root) = ((r.1 == root) && ((r.2 : Int) == (Q.length : Int))) := by
  have hok := h.ok
  by_cases hle : r.2 ≤ Q.length
  · rw [decide_eq_true hle] at hok
    obtain ⟨h1, h2, _⟩ := h.d hok
    rw [hok, h1, h2, Bool.true_and, Bool.and_comm]
  · rw [decide_eq_false hle] at hok
    have e : ((r.2 : Int) == (Q.length : Int)) = false := by simp; omega
    rw [hok, e]; simp
/-- Nothing is left of the path. -/
theorem WR.none (o n : Nat) (F : List (List UInt8)) : WR [] 0 (wlk [] o n [] F 0) z16 0 0 false := by
  refine ⟨?_, (fun h => by cases h), rfl, Nat.le_refl _, Nat.le_refl _⟩
  rw [wlk_nil]; rfl
theorem WR.path (o n : Nat) (F : List (List UInt8)) (d : List UInt8) (Q : List (List UInt8)) (hd : d.length = 16) (hQ : Q[0]? = some d) : WR Q 0 (wlk Q o n [] F 0) d 0 1 true := by
  have hl := (List.getElem?_eq_some_iff.1 hQ).1
  refine ⟨?_, fun _ => ⟨?_, ?_, rfl⟩, hd, Nat.le_refl _, hl⟩
  · rw [wlk_nil]; exact (decide_eq_true hl).symm
  · rw [wlk_nil]; unfold nx; rw [List.getD_eq_getElem?_getD, hQ]; rfl
  · rw [wlk_nil]
theorem WR.found (o : Nat) (ps : List Int) (F : List (List UInt8)) (d : List UInt8) (Q : List (List UInt8)) (hd : d.length = 16) (hp : ps.length = 1) (hF : F[0]? = some d) : WR Q ps.length (wlk Q o 1 ps (F.take ps.length) 0) d 1 0 true := by
  have hne : ps ≠ [] := fun h => by rw [h] at hp; cases hp
  have e : wlk Q o 1 ps (F.take ps.length) 0 = (d, 0) := by
    rw [wlk_one _ _ _ _ hne (Nat.le_refl _), hp, List.getD_eq_getElem?_getD, List.getElem?_take, if_pos (by omega), hF]; rfl
  rw [e]
  exact ⟨(decide_eq_true (Nat.zero_le _)).symm, fun _ => ⟨rfl, rfl, hp.symm⟩, hd, by omega, Nat.zero_le _⟩
section
variable {Q F : List (List UInt8)} {ps : List Int} {o n k b : Nat} {D1 D2 : List UInt8} {f1 p1 f2 p2 : Nat} {b2 : Bool}
theorem wlk_parts (hp : ps ≠ []) (h2 : 2 ≤ n) (hk : k = Mk.ksz n) (hb : b = bel ps ((o + k : Nat) : Int)) (j : Nat) (hj : j = (wlk Q o k (ps.take b) ((F.take ps.length).take b) 0).2) :
    wlk Q o n ps (F.take ps.length) 0 = (nd (wlk Q o k (ps.take b) ((F.take ps.length).take b) 0).1 (wlk (Q.drop j) (o + k) (n - k) (ps.drop b) ((F.take ps.length).drop b) 0).1, j + (wlk (Q.drop j) (o + k) (n - k) (ps.drop b) ((F.take ps.length).drop b) 0).2) := by
  subst hj
  rw [wlk_two _ _ _ _ hp h2 hk hb]
  generalize wlk Q o k (ps.take b) ((F.take ps.length).take b) 0 = r
  rw [wlk_rest Q r.2]
theorem take_take (hb : b ≤ ps.length) : (F.take ps.length).take b = F.take (ps.take b).length := by
  rw [List.take_take, List.length_take]
theorem take_drop (hb : b ≤ ps.length) : (F.take ps.length).drop b = (F.drop b).take (ps.drop b).length := by
  rw [List.drop_take, List.length_drop]
/-- The left part fails. -/
theorem WR.left (hp : ps ≠ []) (h2 : 2 ≤ n) (hk : k = Mk.ksz n) (hb : b = bel ps ((o + k : Nat) : Int)) (h : WR Q (ps.take b).length (wlk Q o k (ps.take b) (F.take (ps.take b).length) 0) D1 f1 p1 false) : WR Q ps.length (wlk Q o n ps (F.take ps.length) 0) z16 0 0 false := by
  have hbl : b ≤ ps.length := by rw [hb]; exact bel_le _ _
  have hok := h.ok
  have hgt : ¬ (wlk Q o k (ps.take b) (F.take (ps.take b).length) 0).2 ≤ Q.length := fun hh => by rw [decide_eq_true hh] at hok; cases hok
  refine ⟨?_, (fun h => by cases h), rfl, Nat.zero_le _, Nat.zero_le _⟩
  rw [wlk_parts hp h2 hk hb _ rfl, take_take hbl]
  exact (decide_eq_false (by show ¬ _ + _ ≤ _; omega)).symm
/-- Both parts. -/
theorem WR.both (hp : ps ≠ []) (h2 : 2 ≤ n) (hk : k = Mk.ksz n) (hb : b = bel ps ((o + k : Nat) : Int)) (h : WR Q (ps.take b).length (wlk Q o k (ps.take b) (F.take (ps.take b).length) 0) D1 f1 p1 true)
    (h' : WR (Q.drop p1) (ps.drop b).length (wlk (Q.drop p1) (o + k) (n - k) (ps.drop b) ((F.drop b).take (ps.drop b).length) 0) D2 f2 p2 b2) : WR Q ps.length (wlk Q o n ps (F.take ps.length) 0) (nd D1 D2) (f1 + f2) (p1 + p2) b2 := by
  have hbl : b ≤ ps.length := by rw [hb]; exact bel_le _ _
  obtain ⟨e1, e2, e3⟩ := h.d rfl
  have hple := h.ple
  have l1 : (ps.take b).length = b := by rw [List.length_take]; omega
  have l2 : (ps.drop b).length = ps.length - b := List.length_drop ..
  have l3 : (Q.drop p1).length = Q.length - p1 := List.length_drop ..
  rw [wlk_parts hp h2 hk hb p1 (by rw [take_take hbl]; exact e2), take_take hbl, take_drop hbl]
  refine ⟨?_, fun hh => ?_, nd_len _ _, ?_, ?_⟩
  · rw [h'.ok, l3]
    show decide _ = decide (p1 + _ ≤ _)
    congr 1
    apply propext
    omega
  · obtain ⟨g1, g2, g3⟩ := h'.d hh
    exact ⟨by rw [e1, g1], by rw [g2], by rw [e3, g3]; omega⟩
  · have := h.fle; have := h'.fle; omega
  · have := h'.ple; omega
end
/-- The places of a list of integers that are read. -/
theorem own_iv {w : World} {base : Nat} {v : Value} {l : List Int} (h : OwnI w base v l) (hf : ∀ p ∈ l, Wm.Fits p) : ∃ A n c, v = .slice A n c ∧ IV w A n c l := by
  obtain ⟨A, c, h1, h2, h3, h4, h5⟩ := own_form h
  exact ⟨A, l.length, c, h1, rfl, h5, h2, h4, hf⟩
theorem within_v {W : World} {A : Option Addr} {n c : Nat} {ps : List Int} (h : IV W A n c ps) (hl : n ≤ 1000000) (f t : Int) (qs : List Int) (hq : qs = wth f t ps) : Calls Tryd.prog 70 #[.slice A n c, .int .i64 f, .int .i64 t] W fun e w' => ∃ A' n' c', e = .returned (.slice A' n' c') ∧ IV w' A' n' c' qs ∧ Below W.heap.size W w' := by
  obtain ⟨rfl, h1, h2, h3, h4⟩ := h
  subst hq
  refine (within_any ps f t A c W h1 (Nat.le_refl _) hl).mono ?_
  rintro e w' ⟨v, ⟨rfl, ho⟩, hb⟩
  obtain ⟨A', n', c', rfl, hv⟩ := own_iv ho (fun p hp => h4 p (wth_mem hp).1)
  exact ⟨A', n', c', rfl, hv, hb⟩
end Go.Proofs.YtlgokfgiemaklaaDoor
