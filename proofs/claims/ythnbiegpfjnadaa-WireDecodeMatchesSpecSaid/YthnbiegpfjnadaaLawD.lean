/-
  WireCanonical: the walk.
-/
import Derived.Test.YthnbiegpfjnadaaSan
import Derived.Test.YthnbiegpfjnadaaOpen
import Derived.Test.YthnbiegpfjnadaaWm2
namespace Go.Proofs.Ythnbiegpfjnadaa
open Go.RowKit

set_option maxRecDepth 100000 in
set_option maxHeartbeats 1000000 in
theorem consumed_any {B B' : Nat} (l lc : List UInt8) (A A' : Option Addr) (c c' n n' : Nat) (hn : n = l.length) (hn' : n' = lc.length) (hc : n ≤ c) (used : Nat) (e : Int) (w : World) (hr : Rds w B A (l.map bv)) (hr' : Rds w B' A' (lc.map bv))
    (h : e = 0 → used ≤ l.length ∧ lc = l.take used) (hl : l.length ≤ 1000000000000) :
    Calls Try.prog 37 #[.slice A n c, .slice A' n' c', .int .i64 used, .int .i64 e] w fun en w' => en = .returned (.bool true) ∧ w = w' := by
  by_cases he : e = 0
  · obtain ⟨hu, rfl⟩ := h he
    have t : (e != 0) = false := by simp [he]
    have H := Lib.hid (same_any (l.take used) (l.take used) A' A c' c w hr' (by rw [List.map_take]; exact hr.take used))
    have hlt : (l.take used).length = used := by rw [List.length_take]; omega
    rw [hlt] at H hn'
    subst hn
    rw [hn']
    clear hn'
    have e1 : (l.take used == l.take used) = true := by simp
    rw [e1] at H
    clear h he hlt e1
    have b1 : (0 : Int) ≤ used := by omega
    have b2 : (used : Int) ≤ l.length := by omega
    have b3 : used ≤ c := by omega
    rcases Nat.eq_zero_or_pos used with h0 | h0
    · subst h0
      go_enter Try.func37, Try.ntmps37
      go_wp2_with fail
      refine H.out.mono ?_
      rintro e w1 ⟨rfl, rfl⟩
      go_wp2
      go_ret
      exact ⟨rfl, rfl⟩
    · have b4 : (0 : Int) < used := by omega
      go_enter Try.func37, Try.ntmps37
      go_wp2_with fail
      refine H.out.mono ?_
      rintro e w1 ⟨rfl, rfl⟩
      go_wp2
      go_ret
      exact ⟨rfl, rfl⟩
  · have t : (e != 0) = true := by simp [he]
    clear h he
    go_enter Try.func37, Try.ntmps37
    go_wp2
    go_ret
    exact ⟨rfl, rfl⟩

/-- What one decoding of the law says of the rest: the encoding of what was decoded is what was consumed. -/
theorem used_of {l lc : List UInt8} {k : Nat} {e : Int} (h : e = 0 → lc = l.take k ∧ k ≤ l.length) : e = 0 → k ≤ l.length ∧ lc = l.take k := fun he => ⟨(h he).2, (h he).1⟩
theorem getDigest_at {l : List UInt8} : ∀ (n a : Nat) (acc : List (List UInt8)), a + 16 * n ≤ l.length → ∃ xs, Wm.getSome Wm.getDigest l n a acc = (acc ++ xs, a + 16 * n, 0) ∧ xs.length = n ∧ (∀ d ∈ xs, d.length = 16) ∧ xs.flatMap id = (l.drop a).take (16 * n)
  | 0, a, acc, _ => ⟨[], by simp [Wm.getSome], rfl, by simp, by simp⟩
  | n + 1, a, acc, h => by
    obtain ⟨xs, h1, h2, h3, h4⟩ := getDigest_at (l := l) n (a + 16) (acc ++ [(l.drop a).take 16]) (by omega)
    refine ⟨(l.drop a).take 16 :: xs, ?_, by simp [h2], ?_, ?_⟩
    · rw [Wm.getSome]
      simp only [Wm.getDigest, ne_eq, not_true_eq_false, if_false]
      have : a + 16 + 16 * n = a + 16 * (n + 1) := by omega
      rw [this] at h1
      rw [h1]
      simp
    · intro d hd
      rcases List.mem_cons.1 hd with rfl | hd
      · rw [List.length_take, List.length_drop]; omega
      · exact h3 d hd
    · rw [List.flatMap_cons, h4]
      show (l.drop a).take 16 ++ _ = _
      have : (l.drop a).take (16 * (n + 1)) = (l.drop a).take 16 ++ ((l.drop a).drop 16).take (16 * n) := by
        rw [← List.take_add]
        congr 1
        omega
      rw [this, List.drop_drop]
theorem getDigs (l : List UInt8) : (∀ d ∈ (Wm.getList Wm.getDigest 16 l).1, d.length = 16) ∧ ((Wm.getList Wm.getDigest 16 l).2.2 = 0 → Wm.encList id (Wm.getList Wm.getDigest 16 l).1 = l.take (Wm.getList Wm.getDigest 16 l).2.1 ∧ (Wm.getList Wm.getDigest 16 l).2.1 ≤ l.length) ∧ (Wm.getList Wm.getDigest 16 l).1.length ≤ l.length := by
  unfold Wm.getList
  rcases hg : Wm.getLen l 16 with ⟨n, j, e⟩
  simp only
  by_cases he : e = 0
  · subst he
    rw [if_neg (by simp)]
    obtain ⟨h1, h2, h3, h4⟩ := Wm.getLen_ok hg
    obtain ⟨e1, _⟩ := Wm.getInt_ok h1
    obtain ⟨xs, g1, g2, g3, g4⟩ := getDigest_at (l := l) n.toNat j [] (by omega)
    rw [g1, List.nil_append]
    refine ⟨g3, fun _ => ⟨?_, by simp only; omega⟩, by simp only; omega⟩
    unfold Wm.encList
    rw [g2, Int.toNat_of_nonneg h2, e1, g4, ← List.take_add]
  · rw [if_pos he]
    simp [he]
theorem getInts_facts (l : List UInt8) : (∀ x ∈ (Wm.getList Wm.getInt 1 l).1, Wm.Fits x) := by
  unfold Wm.getList
  rcases hg : Wm.getLen l 1 with ⟨n, j, e⟩
  simp only
  by_cases he : e = 0
  · rw [if_neg (by simp [he])]
    have : ∀ (m a : Nat) (acc : List Int), (∀ x ∈ acc, Wm.Fits x) → ∀ x ∈ (Wm.getSome Wm.getInt l m a acc).1, Wm.Fits x := by
      intro m
      induction m with
      | zero => intro a acc h; exact h
      | succ m ih =>
        intro a acc h
        rw [Wm.getSome]
        split
        · simp
        · refine ih _ _ fun x hx => ?_
          rcases List.mem_append.1 hx with hx | hx
          · exact h x hx
          · rw [List.mem_singleton.1 hx]; exact Wm.getInt_fits _
    exact this _ _ [] (by simp)
  · rw [if_pos he]; simp
theorem getList_len {α : Type} {get : List UInt8 → α × Nat × Int} (l : List UInt8) (u : Nat) : (Wm.getList get u l).1.length ≤ l.length := by
  unfold Wm.getList
  rcases hg : Wm.getLen l u with ⟨n, j, e⟩
  simp only
  by_cases he : e = 0
  · subst he
    obtain ⟨_, h2, h3, _⟩ := Wm.getLen_ok hg
    rw [if_neg (by simp)]
    have : ∀ (m a : Nat) (acc : List α), (Wm.getSome get l m a acc).1.length ≤ acc.length + m := by
      intro m
      induction m with
      | zero => intro a acc; exact Nat.le_refl _
      | succ m ih =>
        intro a acc
        rw [Wm.getSome]
        split
        · simp
        · have := ih (a + (get (l.drop a)).2.1) (acc ++ [(get (l.drop a)).1])
          rw [List.length_append, List.length_singleton] at this
          omega
    have h5 := this n.toNat j []
    have h6 : (l.length - j) / u ≤ l.length := Nat.le_trans (Nat.div_le_self _ _) (Nat.sub_le _ _)
    simp only [List.length_nil] at h5
    omega
  · rw [if_pos he]; simp

theorem getSome_nil {α : Type} {get : List UInt8 → α × Nat × Int} (l : List UInt8) : ∀ (n a : Nat) (acc : List α), (Wm.getSome get l n a acc).2.2 ≠ 0 → (Wm.getSome get l n a acc).1 = []
  | 0, a, acc, h => by simp [Wm.getSome] at h
  | n + 1, a, acc, h => by
    rw [Wm.getSome] at h ⊢
    split
    · rfl
    · rename_i hh
      rw [if_neg hh] at h
      exact getSome_nil l n _ _ h
theorem getList_nil {α : Type} {get : List UInt8 → α × Nat × Int} {u : Nat} {l : List UInt8} (h : (Wm.getList get u l).2.2 ≠ 0) : (Wm.getList get u l).1 = [] := by
  unfold Wm.getList at h ⊢
  rcases hg : Wm.getLen l u with ⟨n, j, e⟩
  rw [hg] at h
  simp only at h ⊢
  by_cases he : e = 0
  · rw [if_neg (by simp [he])] at h ⊢
    exact getSome_nil l _ _ _ h
  · rw [if_pos he]
theorem getInts_ok (l : List UInt8) : (Wm.getList Wm.getInt 1 l).2.2 = 0 → Wm.encList Wm.enc (Wm.getList Wm.getInt 1 l).1 = l.take (Wm.getList Wm.getInt 1 l).2.1 ∧ (Wm.getList Wm.getInt 1 l).2.1 ≤ l.length := fun h => by
  refine Wm.getList_ok 1 l (fun a x k ha hx => ?_) (Prod.ext rfl (Prod.ext rfl h))
  obtain ⟨h1, h2, _⟩ := Wm.getInt_ok hx
  rw [List.length_drop] at h2
  exact ⟨h1, by omega⟩
theorem getTexts_ok (l : List UInt8) : (Wm.getList Wm.getBytes 1 l).2.2 = 0 → Wm.encList Wm.encBytes (Wm.getList Wm.getBytes 1 l).1 = l.take (Wm.getList Wm.getBytes 1 l).2.1 ∧ (Wm.getList Wm.getBytes 1 l).2.1 ≤ l.length := fun h => by
  refine Wm.getList_ok 1 l (fun a x k ha hx => ?_) (Prod.ext rfl (Prod.ext rfl h))
  obtain ⟨h1, h2⟩ := Wm.getBytes_ok hx
  rw [List.length_drop] at h2
  exact ⟨h1, by omega⟩
theorem getTexts_size (l : List UInt8) : ((Wm.getList Wm.getBytes 1 l).1.flatMap Wm.encBytes).length ≤ l.length := by
  by_cases h : (Wm.getList Wm.getBytes 1 l).2.2 = 0
  · have h1 := congrArg List.length (getTexts_ok l h).1
    unfold Wm.encList at h1
    rw [List.length_append, List.length_take] at h1
    omega
  · rw [getList_nil h]; simp
theorem getOne_ok (l : List UInt8) : (Wm.getInt l).2.2 = 0 → Wm.enc (Wm.getInt l).1 = l.take (Wm.getInt l).2.1 ∧ (Wm.getInt l).2.1 ≤ l.length := fun h => by
  obtain ⟨h1, h2, _⟩ := Wm.getInt_ok (l := l) (Prod.ext rfl (Prod.ext rfl h))
  exact ⟨h1, h2⟩
theorem getText_ok (l : List UInt8) : (Wm.getBytes l).2.2 = 0 → Wm.encBytes (Wm.getBytes l).1 = l.take (Wm.getBytes l).2.1 ∧ (Wm.getBytes l).2.1 ≤ l.length := fun h =>
  Wm.getBytes_ok (l := l) (Prod.ext rfl (Prod.ext rfl h))
theorem getText_size (l : List UInt8) : (Wm.getBytes l).1.length ≤ l.length := by
  unfold Wm.getBytes
  simp only
  split
  · simp
  · simp only [List.length_take, List.length_drop]; omega

set_option maxRecDepth 100000 in
set_option maxHeartbeats 1000000 in
theorem walk_canonical (A : Option Addr) (c : Nat) (l : List UInt8) (w : World) (h : SlB w A l.length c l) :
    Calls Try.prog 7 #[.slice A l.length c] w (OkEnd true w) := by
  have hreach := h.reach
  have hcap := h.cap
  by_cases hbig : 2000 < l.length
  · clear h
    go_enter Try.func7, Try.ntmps7
    go_wp2_with fail
    refine (sanity_any _).mono ?_
    rintro e w1 ⟨rfl, hb1⟩
    go_wp2
    go_ret
    exact ⟨rfl, hb1⟩
  · have hr := h.rds
    clear h
    have H1 := Lib.hid (getInt_any l A c w hr (by unfold maxLen; omega))
    have H2 := Lib.hid (getBytes_any l A c w hr (by omega) hcap)
    have H3 := Lib.hid (getInts_any l A c w hr (by omega) hcap)
    have H4 := Lib.hid (fun W hW => getStrings_any l A c W hW (by omega) hcap)
    have H5 := Lib.hid (fun W hW => getDigests_any l A c W hW (by omega) hcap)
    have f1 := Lib.hid (used_of (getOne_ok l))
    have f2 := Lib.hid (used_of (getText_ok l))
    have f3 := Lib.hid (used_of (getInts_ok l))
    have f4 := Lib.hid (used_of (getTexts_ok l))
    have f5 := Lib.hid (used_of (getDigs l).2.1)
    have HC := Lib.hid (fun (W : World) (A' : Option Addr) (lc : List UInt8) (n' c' used : Nat) (e : Int) hr hn hr' h => consumed_any (B := W.heap.size) (B' := W.heap.size) l lc A A' c c' l.length n' rfl hn hcap used e W hr hr' h (by omega))
    have M1 := Lib.hid (fun W => int_any (Wm.getInt l).1 W (Wm.getInt_fits l))
    have M2 := Lib.hid (fun W => bytes_any (Wm.getBytes l).1 W (by have := getText_size l; omega))
    have M3 := Lib.hid (fun W A' c' hW => ints_any (Wm.getList Wm.getInt 1 l).1 A' c' W hW (by have := getList_len (get := Wm.getInt) l 1; omega) (getInts_facts l))
    have M4 := Lib.hid (fun W A' c' hW => strings_any (Wm.getList Wm.getBytes 1 l).1 A' c' W hW (by have := getList_len (get := Wm.getBytes) l 1; omega) (by have := getTexts_size l; omega))
    have M5 := Lib.hid (fun W A' c' hW => digests_any (Wm.getList Wm.getDigest 16 l).1 A' c' W hW (by have := (getDigs l).2.2; omega) (getDigs l).1)
    go_enter Try.func7, Try.ntmps7
    go_wp2_with fail
    refine H1.out.mono ?_
    rintro e w1 ⟨rfl, rfl⟩
    generalize Wm.getInt l = r1 at f1 M1 ⊢
    obtain ⟨n1, u1, e1⟩ := r1
    go_wp2_with fail
    refine H2.out.mono ?_
    rintro e w1 ⟨rfl, rfl⟩
    generalize Wm.getBytes l = r2 at f2 M2 ⊢
    obtain ⟨n2, u2, e2⟩ := r2
    unfold sv at M2 ⊢
    simp only at M2 ⊢
    generalize bs n2 = S2 at M2 ⊢
    go_wp2_with fail
    refine H3.out.mono ?_
    intro e w3 h3
    obtain ⟨A3, c3, rfl, _, _, _, hr3, hb3⟩ := GlEnd.slice h3
    clear h3
    generalize Wm.getList Wm.getInt 1 l = r3 at f3 M3 hr3 ⊢
    obtain ⟨n3, u3, e3⟩ := r3
    go_wp2_with fail
    refine (H4.out _ ((hr.below hb3).more hb3.size)).mono ?_
    intro e w4 h4
    obtain ⟨A4, c4, rfl, _, _, _, hr4, hb4⟩ := GlEnd.slice h4
    clear h4
    have hq4 := hb3.trans (hb4.mono hb3.size)
    generalize Wm.getList Wm.getBytes 1 l = r4 at f4 M4 hr4 ⊢
    obtain ⟨n4, u4, e4⟩ := r4
    go_wp2_with fail
    refine (H5.out _ ((hr.below hq4).more hq4.size)).mono ?_
    intro e w5 h5
    obtain ⟨A5, c5, rfl, _, _, _, hr5, hb5⟩ := GlEnd.slice h5
    clear h5
    have hq5 := hq4.trans (hb5.mono hq4.size)
    generalize Wm.getList Wm.getDigest 16 l = r5 at f5 M5 hr5 ⊢
    obtain ⟨n5, u5, e5⟩ := r5
    simp only at f1 f2 f3 f4 f5 M1 M3 M4 M5 hr3 hr4 hr5
    replace hr3 := (hr3.below hb4).below (hb5.mono hb4.size)
    replace hr4 := hr4.below hb5
    have hs3 : w3.heap.size ≤ w5.heap.size := Nat.le_trans hb4.size hb5.size
    have hs4 := hb5.size
    replace hr := (hr.below hq5).more hq5.size
    clear hb3 hb4 hb5 hq4
    go_wp2_with fail
    refine (sanity_any _).mono ?_
    rintro e w6 ⟨rfl, hq⟩
    go_wp2_with fail
    refine (M1.out _).mono ?_
    intro e w7 h7
    obtain ⟨A7, c7, rfl, _, _, _, hr7, hb7⟩ := NewEnd.slice h7
    clear h7
    replace hq := hq.trans (hb7.mono hq.size)
    clear hb7
    go_wp2_with fail
    refine (HC.out _ _ _ _ _ _ _ ((hr.below hq).more hq.size) rfl hr7 (f1.out)).mono ?_
    rintro e w8 ⟨rfl, rfl⟩
    clear hr7
    go_wp2_with fail
    refine (M2.out _).mono ?_
    intro e w7 h7
    obtain ⟨A7, c7, rfl, _, _, _, hr7, hb7⟩ := NewEnd.slice h7
    clear h7
    replace hq := hq.trans (hb7.mono hq.size)
    clear hb7
    go_wp2_with fail
    refine (HC.out _ _ _ _ _ _ _ ((hr.below hq).more hq.size) rfl hr7 (f2.out)).mono ?_
    rintro e w8 ⟨rfl, rfl⟩
    clear hr7
    go_wp2_with fail
    refine (M3.out _ _ _ ((hr3.below (hq.mono hs3)).more (Nat.le_trans hs3 hq.size))).mono ?_
    intro e w7 h7
    obtain ⟨A7, c7, rfl, _, _, _, hr7, hb7⟩ := NewEnd.slice h7
    clear h7
    replace hq := hq.trans (hb7.mono hq.size)
    clear hb7
    go_wp2_with fail
    refine (HC.out _ _ _ _ _ _ _ ((hr.below hq).more hq.size) rfl hr7 (f3.out)).mono ?_
    rintro e w8 ⟨rfl, rfl⟩
    clear hr7
    go_wp2_with fail
    refine (M4.out _ _ _ ((hr4.below (hq.mono hs4)).more (Nat.le_trans hs4 hq.size))).mono ?_
    intro e w7 h7
    obtain ⟨A7, c7, rfl, _, _, _, hr7, hb7⟩ := NewEnd.slice h7
    clear h7
    replace hq := hq.trans (hb7.mono hq.size)
    clear hb7
    go_wp2_with fail
    refine (HC.out _ _ _ _ _ _ _ ((hr.below hq).more hq.size) rfl hr7 (f4.out)).mono ?_
    rintro e w8 ⟨rfl, rfl⟩
    clear hr7
    go_wp2_with fail
    refine (M5.out _ _ _ ((hr5.below hq).more hq.size)).mono ?_
    intro e w7 h7
    obtain ⟨A7, c7, rfl, _, _, _, hr7, hb7⟩ := NewEnd.slice h7
    clear h7
    replace hq := hq.trans (hb7.mono hq.size)
    clear hb7
    go_wp2_with fail
    refine (HC.out _ _ _ _ _ _ _ ((hr.below hq).more hq.size) rfl hr7 (f5.out)).mono ?_
    rintro e w8 ⟨rfl, rfl⟩
    clear hr7
    go_wp2
    go_ret
    exact ⟨rfl, hq5.trans (hq.mono hq5.size)⟩
end Go.Proofs.Ythnbiegpfjnadaa
