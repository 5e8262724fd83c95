/-
  Contracts of stage 5: the reference's Few and Identity. Stage 5: 'append([][]uint8{}, m...)', and a row that is set. Stage 5: what the reference's cleared needs.
-/
import Derived.Test.YtfbdhcpclccikaaDoorMrcd
import Derived.Test.YtfbdhcpclccikaaDoorMk2
namespace Go.Proofs.YtfbdhcpclccikaaDoor
set_option linter.unusedVariables false
set_option linter.unusedSimpArgs false
open Go.RowKit

/-- At most so many rows of at most so many elements. -/
def fewB (M : List (List UInt8)) (x : Nat) : Bool := decide (M.length ≤ x) && !(M.any fun m => decide (x < m.length))

set_option maxRecDepth 100000 in
set_option maxHeartbeats 2000000 in
theorem few5_any (M : List (List UInt8)) (A : Option Addr) (c x : Nat) (w : World) {B : Nat} (h : Mat w B A M) (hl : M.length ≤ 140737488355328) :
    Calls Tryd.prog 17 #[.slice A M.length c, .int .i64 x] w fun e w' => e = .returned (.bool (fewB M x)) ∧ w = w' := by
  have h' := Lib.hid h
  obtain ⟨r, hr0⟩ : ∃ r, r = fewB M x := ⟨_, rfl⟩
  have hr := Lib.hid hr0
  rw [← hr0]
  clear h hr0
  obtain ⟨N, hN0⟩ : ∃ N, N = M.length := ⟨_, rfl⟩
  have hN := Lib.hid hN0
  rw [← hN0] at hl ⊢
  clear hN0
  by_cases h48 : x < N
  · have t : (x : Int) < (N : Int) := by omega
    have e : Hid (r = false) := by
      show _ = _
      rw [hr.out]; unfold fewB
      rw [decide_eq_false (by rw [← hN.out]; omega)]
      rfl
    go_enter Tryd.func17, Tryd.ntmps17
    go_wp2_with fail
    go_ret
    exact ⟨by rw [e.out]; first | done | rfl, by trivial⟩
  have t48 : ¬ (x : Int) < (N : Int) := by omega
  have hx' : Hid (N ≤ x) := Nat.le_of_not_lt h48
  go_enter Tryd.func17, Tryd.ntmps17
  go_wp2_with fail
  go_loopw [5] (fun i wr => ∃ k : Nat, k ≤ N ∧ i = .int .i64 k ∧ Hid ((M.take k).any (fun m => decide (x < m.length)) = false) ∧ w = wr) (fun i _ => N - (intOf i).toNat)
  case atStart => exact ⟨0, by omega, rfl, rfl, rfl⟩
  case round =>
    obtain ⟨k, hk, rfl, hno, rfl⟩ := hrel
    by_cases hlt : k < N
    · have t : (k : Int) < (N : Int) := by omega
      have t0 : 0 ≤ (k : Int) := by omega
      obtain ⟨m, hm⟩ : ∃ x, M[k]? = some x := ⟨_, List.getElem?_eq_getElem (by have := hN.out; omega)⟩
      obtain ⟨ad, v, rfl, hab, hca, a, c', rfl, _, _, _, _⟩ := h'.out.at hm
      have hm' := Lib.hid hm
      clear hm
      by_cases hbig : x < m.length
      · have tb : (x : Int) < (m.length : Int) := by omega
        have e : Hid (r = false) := by
          show _ = _
          rw [hr.out]; unfold fewB
          rw [List.any_eq_true.2 ⟨m, List.mem_of_getElem? hm'.out, decide_eq_true hbig⟩, Bool.not_true, Bool.and_false]
        go_wp2_with fail
        go_ret
        exact ⟨by rw [e.out]; first | done | rfl, by trivial⟩
      · have tb : ¬ (x : Int) < (m.length : Int) := by omega
        have hnx := Lib.hid (any_no_next (P := fun m => decide (x < m.length)) hno.out hm'.out (decide_eq_false hbig))
        go_wp2_with fail
        go_roundw
        case rel => exact ⟨k + 1, by omega, by go_num, hnx, by trivial⟩
        case measure => simp [intOf]; omega
    · have t : ¬ (k : Int) < (N : Int) := by omega
      have e : Hid (r = true) := by
        have := hno.out
        rw [List.take_of_length_le (by have := hN.out; omega)] at this
        show _ = _
        rw [hr.out]; unfold fewB
        rw [this, decide_eq_true (by rw [← hN.out]; exact hx'.out)]
        rfl
      go_wp2_with fail
      go_ret
      exact ⟨by rw [e.out]; first | done | rfl, by trivial⟩

/-- The identity matrix. -/
def idM (n : Nat) : List (List UInt8) := (List.range n).map fun k => (List.replicate n 0).set k 1
theorem idM_len (n : Nat) : (idM n).length = n := by simp [idM]
theorem idM_get {n k : Nat} (h : k < n) : (idM n)[k]? = some ((List.replicate n 0).set k 1) := by simp [idM, h]
theorem NewRow.blk {base g n : Nat} {w : World} {m : List UInt8} (h : Blk w g (m.map bv) 5) (hn : n = m.length) (hb : base ≤ g) (hm : m.length ≤ maxLen) : NewRow base w (.slice (some ⟨g, 0, none⟩) n n) m := by
  subst hn
  refine ⟨some ⟨g, 0, none⟩, m.length, rfl, Nat.le_refl _, hm, (fun hh => by cases hh), ?_, fun ad ha => by cases ha; exact ⟨hb, h.lt⟩⟩
  have := h.rds 0 m.length
  rw [List.drop_zero, List.take_of_length_le (by rw [List.length_map]; exact Nat.le_refl _)] at this
  exact this

set_option maxRecDepth 100000 in
set_option maxHeartbeats 2000000 in
theorem identity_any {x : Nat} (n : Nat) (w : World) (hn : n ≤ 10000) (hx : x < w.heap.size) :
    Calls Tryd.prog 40 #[.int .i64 n] w fun e w' => ∃ v, e = .returned v ∧ OwnQ x w' w.heap.size v (idM n) ∧ Below w.heap.size w w' := by
  have hIl : Hid ((idM n).length = n) := idM_len n
  have hIg : Hid (∀ k, k < n → (idM n)[k]? = some ((List.replicate n 0).set k 1)) := fun k hk => idM_get hk
  have hmk := fun W : World => run_make_row' (P := Tryd.prog) 43 5 (.int .u8 0) 1 Tryd.underlying43 infoByte rfl .i64 .i64 n (by omega) (by omega) W
  obtain ⟨R, hR0⟩ : ∃ R, R = idM n := ⟨_, rfl⟩
  rw [← hR0] at hIl hIg ⊢
  clear hR0
  go_enter Tryd.func40, Tryd.ntmps40
  go_wp2_with fail
  go_loopw [3, 4] (fun v i wr => ∃ k : Nat, k ≤ n ∧ i = .int .i64 k ∧ OwnQ x wr w.heap.size v (R.take k) ∧ Below w.heap.size w wr) (fun _ i _ => n - (intOf i).toNat)
  case atStart => exact ⟨0, by omega, rfl, ownQ_nil _ _ _, Below.refl _ _⟩
  case round =>
    obtain ⟨k, hk, rfl, ho, hbw⟩ := hrel
    by_cases hlt : k < n
    · have t : (k : Int) < (n : Int) := by omega
      have t0 : 0 ≤ (k : Int) := by omega
      obtain ⟨W1, hW1⟩ : ∃ W1, W1 = wr.alloc (.cells (madeCells #[.int .u8 0] n) 5) := ⟨_, rfl⟩
      have hb1 : Hid (Below wr.heap.size wr W1) := by show Below _ _ _; rw [hW1]; exact (Below.refl _ _).alloc (Nat.le_refl _) _
      have hZ1 : Hid (Blk W1 wr.heap.size ((List.replicate n (0 : UInt8)).map bv) 5) := by
        show Blk _ _ _ _
        rw [hW1, made_zeros, zeros_row]
        exact Blk.new _ _ _
      have hmk1 := hmk wr
      rw [← hW1] at hmk1
      have hfit0 : Hid (k + 1 ≤ ((List.replicate n (0 : UInt8)).map bv).length) := by show _ ≤ _; simp; omega
      have htk := Lib.hid (take_snoc (hIg.out k hlt))
      have ho1 := Lib.hid (ho.keep hb1.out)
      have hB1 := Lib.hid (hbw.trans (hb1.out.mono hbw.size))
      have hsz := hbw.size
      have hoq := Lib.hid ho
      have hxx : Hid (x < wr.heap.size) := by show _ < _; omega
      have hmk' := Lib.hid hmk
      have hln : (R.take k).length ≤ 1000000 := by rw [List.length_take]; have := hIl.out; omega
      have HF : Hid (∀ w2, Blk w2 wr.heap.size (((List.replicate n (0 : UInt8)).set k 1).map bv) 5 → Only wr.heap.size W1 w2 → OwnQ x w2 w.heap.size u3 (R.take k) ∧ RowOff x w2 u3.ownBlock (.slice (some ⟨wr.heap.size, 0, none⟩) n n) ((List.replicate n 0).set k 1) ∧ w.heap.size ≤ w2.heap.size ∧ Below w.heap.size w w2) := fun w2 hK2 hn2 => by
        have hb2 : Below wr.heap.size wr w2 := hb1.out.trans (hn2.below (Nat.le_refl _))
        have hB2 : Below w.heap.size w w2 := hB1.out.trans (hn2.below hsz)
        exact ⟨hoq.out.keep hb2, NewRow.off (NewRow.blk (base := wr.heap.size) (n := n) hK2 (by simp) (Nat.le_refl _) (by simp; unfold maxLen; omega)) hoq.out hxx.out, hB2.size, hB2⟩
      have HS : Hid (∀ w2, Hid (Blk w2 wr.heap.size (splice ((List.replicate n (0 : UInt8)).map bv) k (bv 1).cells.toList) 5) → Blk w2 wr.heap.size (((List.replicate n (0 : UInt8)).set k 1).map bv) 5) := fun w2 hh => by
        have hh := hh.out
        rw [show (bv 1).cells.toList = [bv 1] from rfl, splice_set _ _ _ hfit0.out, ← List.map_set] at hh
        exact hh
      clear hW1 ho hbw hmk
      go_wp2_with (first | (at_builtin; go_must (refine push_q rfl _ _ rfl w.heap.size _ (R.take k) _ _ rfl rfl ho2 hrow hln hsz2 ?_); intro v' w5 ho5 hb5 hg5) | (refine wpList_blk_store rfl 5 _ _ rfl k (bv 1) rfl rfl hZ1.out size_u8 hfit0.out (one_u8b 1) ?_; intro w2 hw2 hn2; obtain ⟨ho2, hrow, hsz2, hB2⟩ := HF.out w2 (HS.out w2 hw2) hn2))
      go_roundw
      case rel => exact ⟨k + 1, by omega, by go_num, by rw [htk.out]; exact ho5, hB2.trans hb5⟩
      case measure => simp [intOf]; omega
    · have t : ¬ (k : Int) < (n : Int) := by omega
      have hkk : R.take k = R := List.take_of_length_le (by rw [hIl.out]; omega)
      rw [hkk] at ho
      go_wp2_with fail
      go_ret
      exact ⟨_, by first | rfl | (go_simp; done) | (go_simp; rfl), ho, hbw⟩
end Go.Proofs.YtfbdhcpclccikaaDoor

namespace Go.Proofs.YtfbdhcpclccikaaDoor
set_option linter.unusedVariables false
set_option linter.unusedSimpArgs false
open Go.RowKit

theorem copy_q {x B : Nat} {w0 : World} {ops : Array Oper} {rest : List Oper} {o : Oper} {a : Act} {Q : Exit → Act → World → Prop} (hgd : o.guard = none) (s y : Operand)
    (ho : o.op = .call { callee := .builtin .append, args := #[s, y], argTypes := #[22, 22] })
    (ad : Addr) (c cc : Nat) (M : List (List UInt8)) (hs : a.eval s = .slice (some ⟨w0.heap.size, 0, none⟩) 0 0) (hy : a.eval y = .slice (some ad) M.length c)
    (h0 : Mat w0 B (some ad) M) (hB : B ≤ w0.heap.size) (hx : B ≤ x) (hre : Rect M cc) (hcc : 0 < cc) (hl : M.length ≤ 1000000)
    (h : ∀ v' w', OwnQ x w' w0.heap.size v' M → Below w0.heap.size w0 w' → wpList Tryd.prog ops Q rest (a.put o.dst v') w') :
    wpList Tryd.prog ops Q (o :: rest) a (w0.alloc (.cells #[] 43)) := by
  obtain ⟨vs, h1, h2, h3⟩ := h0
  obtain ⟨i0, hi, hz0, hz1, hz2⟩ := info_parts infoRow
  have hown : (w0.alloc (.cells #[] 43)).ownsRow w0.heap.size 43 1 (.slice (some ⟨w0.heap.size, 0, none⟩) 0 0) 0 [] :=
    ⟨rfl, .inr ⟨w0.heap.size, 0, #[], rfl, Nat.le_refl _, Blk.new w0 [] 43, Nat.le_refl _, Nat.zero_le _, rfl, rfl⟩⟩
  have hB1 : Below w0.heap.size w0 (w0.alloc (.cells #[] 43)) := (Below.refl _ _).alloc (Nat.le_refl _) _
  refine wpList_append_own_at _ hgd s y 22 ho w0.heap.size 43 i0 (.slice none 0 0) 1 24 Tryd.underlying22 hi hz0 hz1 hz2 rfl (by decide) _ 0 [] hs hown ad M.length c vs hy (by rw [h1]; omega) (fun j u hu => ?_) (fun u hu => ?_) (by unfold maxLen; omega) (by omega) hB1.size ?_
  · obtain ⟨ad', e, hb, hc⟩ := h2.look hu
    cases e
    rw [hB1.cell (p := ad.add j) (by rw [add_block]; omega)]
    exact hc
  · obtain ⟨i, hi'⟩ := List.getElem?_of_mem hu
    obtain ⟨m, hm⟩ : ∃ m, M[i]? = some m := ⟨_, List.getElem?_eq_getElem (by rw [← h1]; exact (List.getElem?_eq_some_iff.1 hi').1)⟩
    obtain ⟨_, _, rfl, _⟩ := h3 i u m hi' hm
    rfl
  · intro v' w' g1 g2 g3 g4
    have hsz1 : (w0.alloc (.cells #[] 43)).heap.size = w0.heap.size + 1 := by simp
    have hB2 : Below w0.heap.size w0 w' := hB1.trans ((Below.refl _ _).grown g2 hB1.size fun k hk => by cases hk; exact Nat.le_refl _)
    refine h v' w' ⟨vs, h1, by rw [Nat.zero_add, List.nil_append] at g1; exact g1, fun i u m hu hm => ?_⟩ hB2
    obtain ⟨aa, ca, e1, e2, e3, e4, e5⟩ := h3 i u m hu hm
    have hml := hre.at hm
    have hbk : ∀ ad, aa = some ad → ad.block < B := fun ad2 ha => by
      obtain ⟨ad3, e6, hb, _⟩ := e5 (by intro hh; have := congrArg List.length hh; rw [List.length_map, hml] at this; simp at this; omega)
      rw [ha] at e6
      cases e6
      exact hb
    refine ⟨aa, ca, e1, e2, e3, e4, (e5.below (hB2.mono hB)).more (by have := hB2.size; omega), fun ad2 ha => ⟨fun hh => ?_, by have := hbk ad2 ha; have := hB2.size; omega, fun hh => by have := hbk ad2 ha; omega⟩⟩
    have hb := hbk ad2 ha
    rcases g4 with g4 | g4
    · rw [g4] at hh
      have : w0.heap.size = ad2.block := Option.some.inj hh
      omega
    · rw [g4, hsz1] at hh
      have : w0.heap.size + 1 = ad2.block := Option.some.inj hh
      omega

/-- Where the rows' slices lie, and what becomes of them when one is set. -/
theorem OwnQ.open {x : Nat} {w : World} {base : Nat} {v : Value} {K : List (List UInt8)} (h : OwnQ x w base v K) (hne : 0 < K.length) :
    ∃ g cap L, v = .slice (some ⟨g, 0, none⟩) K.length cap ∧ base ≤ g ∧ Blk w g L 43 ∧ K.length ≤ L.length ∧
      ∀ (w' : World) (k : Nat) (u : Value) (m : List UInt8), k < K.length → Blk w' g (L.set k u) 43 → Only g w w' → RowOff x w (some g) u m → OwnQ x w' base v (K.set k m) := by
  obtain ⟨vs, h1, h2, h3⟩ := h
  rcases h2.2 with ⟨_, hn⟩ | ⟨g, cap, cur, rfl, hg, hh, q1, q2, q3, q4⟩
  · omega
  have hlen : K.length ≤ cur.toList.length := by simp only [Array.length_toList]; omega
  refine ⟨g, cap, cur.toList, rfl, hg, by show _ = _; rw [hh], hlen, fun w' k u m hk hb ho hr => ?_⟩
  rw [Nat.mul_one] at q4
  have hgr : ∀ (uu : Value) (mm : List UInt8), RowOff x w (some g) uu mm → RowOff x w' (some g) uu mm := fun uu mm hh2 => by
    obtain ⟨a, c, e1, e2, e3, e4, e5, e6⟩ := hh2
    have hgb : w.grownBy w' (some g) := ⟨ho.os, ho.tape, ho.output, Nat.le_of_eq ho.size.symm, fun j _ hj => ho.block j (fun e => hj (by rw [e]))⟩
    exact ⟨a, c, e1, e2, e3, e4, e5.apart hgb (fun ad ha => (e6 ad ha).1), fun ad ha => ⟨(e6 ad ha).1, by rw [ho.size]; exact (e6 ad ha).2.1, (e6 ad ha).2.2⟩⟩
  refine ⟨vs.set k u, by simp [h1], ⟨by simp [h1], .inr ⟨g, cap, (cur.toList.set k u).toArray, by rw [List.length_set], hg, hb, by rw [List.length_set]; exact q1, q2, by simp [q3], ?_⟩⟩, fun i u' m' hu hm => ?_⟩
  · show ((cur.toList.set k u).take ((K.set k m).length * 1)) = vs.set k u
    rw [List.length_set, Nat.mul_one, List.take_set, q4]
  · show RowOff x w' (some g) u' m'
    by_cases hik : k = i
    · subst hik
      rw [List.getElem?_set_self (by omega)] at hu
      rw [List.getElem?_set_self hk] at hm
      cases hu
      cases hm
      exact hgr _ _ hr
    · rw [List.getElem?_set_ne hik] at hu hm
      exact hgr _ _ (h3 i u' m' hu hm)
end Go.Proofs.YtfbdhcpclccikaaDoor

namespace Go.Proofs.YtfbdhcpclccikaaDoor
set_option linter.unusedVariables false
set_option linter.unusedSimpArgs false
open Go.RowKit

theorem addR_zeros (c : UInt8) (p : List UInt8) : addR c p (List.replicate p.length 0) = mulR c p := by
  unfold addR mulR
  rw [List.length_replicate]
  apply List.ext_getElem?
  intro i
  rcases Nat.lt_or_ge i p.length with h | h
  · rw [rowF_get _ h, rowF_get _ h, List.getD_eq_getElem?_getD, List.getElem?_replicate, if_pos h]
    simp
  · rw [List.getElem?_eq_none (by rw [rowF_len]; exact h), List.getElem?_eq_none (by rw [rowF_len]; exact h)]
/-- The rows that cleared begins with. -/
def clr0 (M : List (List UInt8)) (top col i : Nat) : List (List UInt8) := (M.set i (M.getD top [])).set top (mulR (Gf.inv (el M i col)) (M.getD i []))
theorem pivStep_alt (M : List (List UInt8)) (top col i : Nat) : pivStep M top col i = elimK (clr0 M top col i) top col (mulR (Gf.inv (el M i col)) (M.getD i [])) M.length := by
  unfold pivStep clr0 swp
  congr 1
  by_cases h : top = i
  · subst h
    simp
  · rw [List.set_comm _ _ h, List.set_set, ]
/-- A matrix's row is in another block than what was made later. -/
theorem mat_off {x B : Nat} {w : World} {A : Option Addr} {M : List (List UInt8)} {cc i : Nat} {m : List UInt8} {u : Value} {row : Option Nat} (h : RowAt w B u m) (hm : 0 < m.length) (hB : B ≤ w.heap.size) (hx : B ≤ x) (hr : ∀ g, row = some g → B ≤ g) : RowOff x w row u m := by
  obtain ⟨a, c, e1, e2, e3, e4, e5⟩ := h
  refine ⟨a, c, e1, e2, e3, e4, e5.more hB, fun ad ha => ?_⟩
  obtain ⟨ad', e6, hb, _⟩ := e5 (by intro hh; have := congrArg List.length hh; rw [List.length_map] at this; simp at this; subst this; simp at hm)
  rw [ha] at e6
  cases e6
  refine ⟨fun hh => ?_, by omega, by omega⟩
  have := hr _ hh
  omega
end Go.Proofs.YtfbdhcpclccikaaDoor
