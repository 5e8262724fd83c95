/-
  Contracts of stage 5: widened.
-/
import Derived.Test.YtfbdhcpclccikaaDoorMd
namespace Go.Proofs.YtfbdhcpclccikaaDoor
set_option linter.unusedVariables false
set_option linter.unusedSimpArgs false
open Go.RowKit

section
variable {P : Program} {ops : Array Oper} {rest : List Oper} {op : Oper} {a : Act} {w : World} {Q : Exit → Act → World → Prop}
/-- 'copy(b[o:], s)', s a slice. -/
theorem wpList_blk_copyR (hgd : op.guard = none) (d s : Operand) (dT sT : TypeId) (ho : op.op = .call { callee := .builtin .copy, args := #[d, s], argTypes := #[dT, sT] }) (elem : TypeId) (hu : P.underlying dT = some (.slice elem)) (hsz : (P.info? elem).map (·.size) = some 1)
    {g : Nat} {L : List Value} {t : TypeId} (o dLen dCap : Nat) (ad : Addr) (sLen sCap : Nat) (hd : a.eval d = .slice (some ⟨g, o, none⟩) dLen dCap) (hs : a.eval s = .slice (some ad) sLen sCap) (hb : Blk w g L t) (cs : List Value) (hn : cs.length = Nat.min sLen dLen)
    (hsrc : ∀ j v, cs[j]? = some v → w.cell? (ad.add j) = some v) (hfit : o + cs.length ≤ L.length) (h1 : ∀ v ∈ cs, v.oneCell' = true)
    (h : ∀ w', Hid (Blk w' g (splice L o cs) t) → Only g w w' → wpList P ops Q rest (a.put op.dst (goInt cs.length)) w') : wpList P ops Q (op :: rest) a w := by
  refine wpList_copy_own hgd d s dT sT ho elem hu hsz g o dLen dCap ad sLen sCap hd hs L.toArray t hb cs hn hsrc (by simpa using hfit) h1 ?_
  exact h _ (hb.setRow _) (Only.setRow _ _ _)
/-- .. of a nil slice. -/
theorem wpList_copy_nil (hgd : op.guard = none) (d s : Operand) (dT sT : TypeId) (ho : op.op = .call { callee := .builtin .copy, args := #[d, s], argTypes := #[dT, sT] }) (elem : TypeId) (hu : P.underlying dT = some (.slice elem)) (hsz : (P.info? elem).map (·.size) = some 1)
    {g : Nat} (o dLen dCap : Nat) (hd : a.eval d = .slice (some ⟨g, o, none⟩) dLen dCap) (hs : a.eval s = .slice none 0 0) (h : wpList P ops Q rest (a.put op.dst (goInt 0)) w) : wpList P ops Q (op :: rest) a w := by
  refine wpList_plain hgd fun K hK => ?_
  have hrun : (Builtin.copy_ #[dT, sT] op.type #[.slice (some ⟨g, o, none⟩) dLen dCap, .slice none 0 0]).run P w = .ok (goInt 0) w := by
    cases hq : P.info? elem with
    | none => simp [hq] at hsz
    | some i =>
      have hi : i.size = 1 := by simpa [hq] using hsz
      have hmin : Nat.min 0 dLen = 0 := Nat.zero_min dLen
      simp [Builtin.copy_, run_underlying hu, Builtin.lenOf, sizeOf, typeInfo, hq, hi, hmin, Builtin.firstCells, storeCells]
  unfold Oper.wp
  simp [execOp, ho, resolve, invoke, builtin, hd, hs, hrun, Result.andThen]
  exact hK _ _ h
end
/-- A row with more elements, which are 0. -/
def pad0 (m : List UInt8) (more : Nat) : List UInt8 := m ++ List.replicate more 0
theorem pad0_len (m : List UInt8) (more : Nat) : (pad0 m more).length = m.length + more := by simp [pad0]
/-- The matrix with more columns, which are 0. -/
def wid (M : List (List UInt8)) (more : Nat) : List (List UInt8) := M.map fun m => pad0 m more
theorem pad_splice (m : List UInt8) (more : Nat) : splice ((List.replicate (m.length + more) (0 : UInt8)).map bv) 0 (m.map bv) = (pad0 m more).map bv := by
  unfold splice pad0
  rw [List.take_zero, List.nil_append, List.map_replicate, List.drop_replicate, List.length_map, List.map_append, List.map_replicate]
  congr 2
  omega

set_option maxRecDepth 100000 in
set_option maxHeartbeats 2000000 in
theorem widened_any {B : Nat} (M : List (List UInt8)) (A : Option Addr) (c more : Nat) (w : World) (h : Mat w B A M) (hB : B ≤ w.heap.size) (hl : M.length ≤ 1000000) (hc : ∀ m ∈ M, m.length ≤ 1000000) (hm : more ≤ 1000000) :
    Calls Tryd.prog 70 #[.slice A M.length c, .int .i64 more] w (MatEnd w M.length (wid M more)) := by
  obtain ⟨rows, hrows⟩ : ∃ n, n = M.length := ⟨_, rfl⟩
  obtain ⟨W2, hW2⟩ : ∃ W2, W2 = w.alloc (.cells (madeCells #[.slice none 0 0] rows) 43) := ⟨_, rfl⟩
  have hB2 : Hid (Below w.heap.size w W2) := by show Below _ _ _; rw [hW2]; exact (Below.refl _ _).alloc (Nat.le_refl _) _
  have hO2 : Hid (Om W2 w.heap.size w.heap.size [] (wid (M.take 0) more) (List.replicate rows (.slice none 0 0))) := by
    show Om _ _ _ _ _ _
    refine Om.fresh (Nat.le_refl _) ?_
    rw [hW2, made_nils]
    exact Blk.new _ _ _
  have hmk := run_make_row' (P := Tryd.prog) 22 43 (.slice none 0 0) 24 Tryd.underlying22 infoRow rfl .i64 .i64 rows (by omega) (by omega) w
  rw [← hW2] at hmk
  have h' := Lib.hid h
  have hc' := Lib.hid hc
  have hBs := Lib.hid hB
  have hr' := Lib.hid hrows
  rw [← hrows] at hl ⊢
  clear hW2 h hc hrows hB
  go_enter Tryd.func70, Tryd.ntmps70
  go_wp2_with fail
  go_loopw [13] (fun i wr => ∃ (k : Nat) (bs : List Nat), k ≤ rows ∧ i = .int .i64 k ∧ Below w.heap.size w wr ∧ Om wr w.heap.size w.heap.size bs (wid (M.take k) more) (List.replicate (rows - k) (.slice none 0 0))) (fun i _ => rows - (intOf i).toNat)
  case atStart => exact ⟨0, [], by omega, rfl, hB2.out, hO2.out⟩
  case round =>
    obtain ⟨k, bs, hk, rfl, hB0, hO0⟩ := hrel
    have hB := Lib.hid hB0
    have hO := Lib.hid hO0
    clear hB0 hO0
    by_cases hlt : k < rows
    · have t : (k : Int) < (rows : Int) := by omega
      have t0 : 0 ≤ (k : Int) := by omega
      obtain ⟨m, hm0⟩ : ∃ m, M[k]? = some m := ⟨_, List.getElem?_eq_getElem (by have := hr'.out; omega)⟩
      have hmg := Lib.hid hm0
      have hml : m.length ≤ 1000000 := hc'.out m (List.mem_of_getElem? hm0)
      obtain ⟨ad, v, rfl, hab, hcv, a, c', rfl, hcap1, hcap2, hnil, hrd⟩ := (h'.out.below (hB.out.mono hBs.out)).at hm0
      have hnil' := Lib.hid hnil
      have hrd' := Lib.hid hrd
      have hcap' := Lib.hid hcap1
      obtain ⟨n, hn⟩ : ∃ n, n = m.length + more := ⟨_, rfl⟩
      have en : (m.length : Int) + (more : Int) = (n : Int) := by omega
      have hn' := Lib.hid hn
      have hnb : n ≤ 2000000 := by omega
      obtain ⟨ml, hml0⟩ : ∃ ml, ml = m.length := ⟨_, rfl⟩
      have hmle := Lib.hid hml0
      rw [← hml0] at hcv en hml
      -- the new row
      obtain ⟨W5, hW5⟩ : ∃ W5, W5 = wr.alloc (.cells (madeCells #[.int .u8 0] n) 5) := ⟨_, rfl⟩
      have hb5 : Hid (Below wr.heap.size wr W5) := by show Below _ _ _; rw [hW5]; exact (Below.refl _ _).alloc (Nat.le_refl _) _
      have hZ5 : Hid (Blk W5 wr.heap.size ((List.replicate n (0 : UInt8)).map bv) 5) := by
        show Blk _ _ _ _
        rw [hW5, made_zeros, zeros_row]
        exact Blk.new _ _ _
      have hmk2 := run_make_row' (P := Tryd.prog) 43 5 (.int .u8 0) 1 Tryd.underlying43 infoByte rfl .i64 .i64 n (by omega) (by omega) wr
      rw [← hW5] at hmk2
      have hO5 := Lib.hid (hO.out.keep hb5.out)
      have hwl : Hid ((wid (M.take k) more).length = k) := by show _ = _; unfold wid; rw [List.length_map, List.length_take, ← hr'.out]; omega
      have hlen5 : Hid (k + 1 ≤ (rvals bs (wid (M.take k) more) ++ List.replicate (rows - k) (Value.slice none 0 0)).length) := by
        show _ ≤ _
        rw [List.length_append, rvals_len hO.out.len, hwl.out, List.length_replicate]
        omega
      have hbsl : Hid (∀ x ∈ bs, x < wr.heap.size) := fun x hx => by
        obtain ⟨j, hj⟩ := List.getElem?_of_mem hx
        have hjl := (List.getElem?_eq_some_iff.1 hj).1
        exact (hO.out.row j x _ hj (List.getElem?_eq_getElem (by rw [← hO.out.len]; exact hjl))).lt
      have hgl : Hid (w.heap.size < wr.heap.size) := hO.out.out.lt
      -- when the row has been stored
      have HO6 : Hid (∀ W6, Hid (Blk W6 w.heap.size (splice (rvals bs (wid (M.take k) more) ++ List.replicate (rows - k) (Value.slice none 0 0)) k [.slice (some ⟨wr.heap.size, 0, none⟩) n n]) 43) → Only w.heap.size W5 W6 →
          Om W6 w.heap.size w.heap.size (bs ++ [wr.heap.size]) (wid (M.take k) more ++ [List.replicate n (0 : UInt8)]) (List.replicate (rows - (k + 1)) (.slice none 0 0)) ∧ Below w.heap.size w W6 ∧ W6.cell? ⟨w.heap.size, k, none⟩ = some (.slice (some ⟨wr.heap.size, 0, none⟩) n n) ∧ Blk W6 wr.heap.size ((List.replicate n (0 : UInt8)).map bv) 5) := fun W6 hW6 ho6 => by
        have hrep : List.replicate (rows - k) (Value.slice none 0 0) = Value.slice none 0 0 :: List.replicate (rows - (k + 1)) (.slice none 0 0) := by
          rw [show rows - k = (rows - (k + 1)) + 1 by omega, List.replicate_succ]
        have hgne : wr.heap.size ≠ w.heap.size := by have := hgl.out; omega
        have hO6 := Om.push (b := wr.heap.size) (m := List.replicate n (0 : UInt8)) (by have := hO5.out; rw [hrep] at this; exact this) ho6 (by
          have := hW6.out
          rw [hrep] at this
          rw [hwl.out, List.length_replicate]
          exact this) (hZ5.out.only ho6 hgne) (by have := hB.out.size; omega) hgne (fun hh => by have := hbsl.out _ hh; omega) (by rw [List.length_replicate]; unfold maxLen; omega)
        refine ⟨hO6, (hB.out.trans (hb5.out.mono hB.out.size)).trans (ho6.below (Nat.le_refl _)), ?_, hZ5.out.only ho6 hgne⟩
        obtain ⟨b, hb, _, _, hcb, _⟩ := hO6.at (i := k) (m := List.replicate n (0 : UInt8)) (by rw [List.getElem?_append_right (by rw [hwl.out]; exact Nat.le_refl _), hwl.out, Nat.sub_self]; rfl)
        have hbl : bs.length = k := by rw [hO.out.len, hwl.out]
        rw [List.getElem?_append_right (by omega), hbl, Nat.sub_self] at hb
        rw [← Option.some.inj hb, List.length_replicate] at hcb
        exact hcb
      have HF : Hid (∀ W6 W7, Om W6 w.heap.size w.heap.size (bs ++ [wr.heap.size]) (wid (M.take k) more ++ [List.replicate n (0 : UInt8)]) (List.replicate (rows - (k + 1)) (.slice none 0 0)) → Below w.heap.size w W6 → Only wr.heap.size W6 W7 → Blk W7 wr.heap.size ((pad0 m more).map bv) 5 →
          Om W7 w.heap.size w.heap.size (bs ++ [wr.heap.size]) (wid (M.take (k + 1)) more) (List.replicate (rows - (k + 1)) (.slice none 0 0)) ∧ Below w.heap.size w W7) := fun W6 W7 hO6 hB6 ho7 hk7 => by
        have hbl : bs.length = k := by rw [hO.out.len, hwl.out]
        have h := hO6.setRow (i := k) (b := wr.heap.size) (m := List.replicate n (0 : UInt8)) (by rw [List.getElem?_append_right (by omega), hbl, Nat.sub_self]; rfl) (by rw [List.getElem?_append_right (by rw [hwl.out]; exact Nat.le_refl _), hwl.out, Nat.sub_self]; rfl) ho7 hk7 (by rw [pad0_len, List.length_replicate]; exact hn'.out.symm)
        rw [List.set_append_right _ _ (by rw [hwl.out]; exact Nat.le_refl _), hwl.out, Nat.sub_self] at h
        have he : wid (M.take (k + 1)) more = wid (M.take k) more ++ [pad0 m more] := by
          unfold wid
          rw [List.take_add_one, hmg.out, List.map_append]
          rfl
        rw [he]
        exact ⟨h, hB6.trans (ho7.below (Nat.le_of_lt hgl.out))⟩
      have hlk : Hid (∀ W6, Below w.heap.size w W6 → Rds W6 B a (m.map bv)) := fun W6 hb => by
        obtain ⟨ad2, v2, hA2, _, hcv2, a2, c2, hv2, _, _, _, hr2⟩ := (h'.out.below (hb.mono hBs.out)).at hmg.out
        obtain rfl := Option.some.inj hA2
        have hh1 : W6.cell? (ad.add k) = w.cell? (ad.add k) := (hb.mono hBs.out).cell (by rw [add_block]; exact hab)
        have hh2 : wr.cell? (ad.add k) = w.cell? (ad.add k) := (hB.out.mono hBs.out).cell (by rw [add_block]; exact hab)
        rw [hcv2] at hh1
        rw [hcv] at hh2
        rw [← hh1] at hh2
        have := Option.some.inj hh2
        rw [hv2] at this
        injection this with e1
        rw [e1]
        exact hr2
      clear hW5 hrd hnil hcap1 hcap2 hm0 hml0 hn hlen5
      have hlen5 : Hid (k + 1 ≤ (rvals bs (wid (M.take k) more) ++ List.replicate (rows - k) (Value.slice none 0 0)).length) := by
        show _ ≤ _
        rw [List.length_append, rvals_len hO.out.len, hwl.out, List.length_replicate]
        omega
      cases a with
      | none =>
        have hm0 : m = [] := by
          by_cases hm : m = []
          · exact hm
          · obtain ⟨ad2, hh, _⟩ := (hlk.out _ hB.out) (by simpa using hm)
            cases hh
        have hml0 : ml = 0 := by rw [hmle.out, hm0]; rfl
        have hc0 : c' = 0 := hnil'.out rfl
        subst hml0
        subst hc0
        have hpz : Hid ((List.replicate n (0 : UInt8)) = pad0 m more) := by
          show _ = _
          rw [hn'.out, hm0]
          simp [pad0]
        have hne : n = more := by
          have h1 := hn'.out
          rw [hm0] at h1
          simpa using h1
        subst hne
        clear hm0 en
        go_wp2_with (first | (refine wpList_blk_store rfl 43 _ _ rfl k (.slice (some ⟨wr.heap.size, 0, none⟩) n n) rfl rfl hO5.out.out size_row hlen5.out (one_slice _ _ _) ?_; intro W6 hW6 ho6; obtain ⟨hO6, hB6, c6, hk6⟩ := HO6.out W6 hW6 ho6) | (refine wpList_copy_nil rfl _ _ _ _ rfl 5 Tryd.underlying43 size_u8 0 n n rfl rfl ?_))
        have hk7 : Blk W6 wr.heap.size ((pad0 m n).map bv) 5 := by rw [← hpz.out]; exact hk6
        obtain ⟨hO7, hB7⟩ := HF.out W6 W6 hO6 hB6 ⟨rfl, rfl, rfl, rfl, fun _ _ => rfl⟩ hk7
        have hO7' := Lib.hid hO7
        have hB7' := Lib.hid hB7
        clear hO7 hB7 hO6 hB6 hk6 hk7 c6 hW6 ho6
        go_wp2_with fail
        go_roundw
        case rel => exact ⟨k + 1, _, by omega, by go_num, hB7'.out, hO7'.out⟩
        case measure => simp [intOf]; omega
      | some a' =>
        have hmin : Hid ((m.map bv).length = Nat.min ml n) := by
          show _ = _
          rw [List.length_map, ← hmle.out]
          exact (Nat.min_eq_left (by omega)).symm
        have hsrc : Hid (∀ W6, Below w.heap.size w W6 → ∀ j v, (m.map bv)[j]? = some v → W6.cell? (a'.add j) = some v) := fun W6 hb j v hv => by
          obtain ⟨a2, h1, _, h2⟩ := (hlk.out W6 hb).look hv
          rw [Option.some.inj h1]
          exact h2
        have hmo : Hid (∀ v ∈ m.map bv, v.oneCell' = true) := av_one m
        have hfit : Hid (0 + (m.map bv).length ≤ ((List.replicate n (0 : UInt8)).map bv).length) := by
          show _ ≤ _
          rw [List.length_map, List.length_map, List.length_replicate, ← hmle.out]
          omega
        have hpz : Hid (splice ((List.replicate n (0 : UInt8)).map bv) 0 (m.map bv) = (pad0 m more).map bv) := by
          show _ = _
          rw [hn'.out]
          exact pad_splice m more
        go_wp2_with (first | (refine wpList_blk_store rfl 43 _ _ rfl k (.slice (some ⟨wr.heap.size, 0, none⟩) n n) rfl rfl hO5.out.out size_row hlen5.out (one_slice _ _ _) ?_; intro W6 hW6 ho6; obtain ⟨hO6, hB6, c6, hk6⟩ := HO6.out W6 hW6 ho6) | (refine wpList_blk_copyR rfl _ _ _ _ rfl 5 Tryd.underlying43 size_u8 0 n n a' ml c' rfl rfl hk6 (m.map bv) hmin.out (hsrc.out W6 hB6) hfit.out hmo.out ?_; intro W7 hW7 ho7))
        have hk7 : Blk W7 wr.heap.size ((pad0 m more).map bv) 5 := by rw [← hpz.out]; exact hW7.out
        obtain ⟨hO7, hB7⟩ := HF.out W6 W7 hO6 hB6 ho7 hk7
        have hO7' := Lib.hid hO7
        have hB7' := Lib.hid hB7
        clear hO7 hB7 hO6 hB6 hk6 hk7 c6 hW6 ho6 hW7 ho7
        go_wp2_with fail
        go_roundw
        case rel => exact ⟨k + 1, _, by omega, by go_num, hB7'.out, hO7'.out⟩
        case measure => simp [intOf]; omega
    · have t : ¬ (k : Int) < (rows : Int) := by omega
      have hfin : Hid (MatEnd w rows (wid M more) (.returned (.slice (some ⟨w.heap.size, 0, none⟩) rows rows)) wr) := by
        have h := hO.out
        rw [show k = rows by omega, Nat.sub_self, List.take_of_length_le (by rw [← hr'.out]; exact Nat.le_refl _)] at h
        exact ⟨⟨_, _, rfl, h⟩, hB.out⟩
      go_wp2_with fail
      go_ret
      exact hfin.out
end Go.Proofs.YtfbdhcpclccikaaDoor
