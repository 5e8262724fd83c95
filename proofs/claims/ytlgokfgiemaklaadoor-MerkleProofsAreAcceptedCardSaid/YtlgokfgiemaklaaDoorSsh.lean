/-
  Contracts of stage 2: streams. Contracts of stage 2: the hash of a stream. Contracts of stage 2: streams as values; Sum, digests, parts.
-/
import Derived.Test.YtlgokfgiemaklaaDoorByt
import Derived.Test.YtlgokfgiemaklaaDoorWb
import Derived.Test.YtlgokfgiemaklaaDoorBk
import Derived.Test.YtlgokfgiemaklaaDoorKc
namespace Go.Proofs.YtlgokfgiemaklaaDoor
set_option linter.unusedVariables false
open Go.RowKit

/-- The cells of a stream. -/
def scells (s : List Nat) (b : List UInt8) (n : Nat) : List Value := s.map uv ++ b.map bv ++ [.int .u64 n]
section
variable {s : List Nat} {b : List UInt8} {n : Nat}
theorem scells_len (hs : s.length = 8) (hb : b.length = 64) : (scells s b n).length = 73 := by simp [scells, hs, hb]
theorem scells_state (hs : s.length = 8) : ((scells s b n).drop 0).take (s.map uv).length = s.map uv := by
  unfold scells
  rw [List.drop_zero, List.append_assoc, List.take_left' rfl]
theorem scells_block (hs : s.length = 8) : ((scells s b n).drop 8).take (b.map bv).length = b.map bv := by
  unfold scells
  rw [List.append_assoc, List.drop_left' (by rw [List.length_map, hs]), List.take_left' rfl]
theorem scells_n (hs : s.length = 8) (hb : b.length = 64) : (scells s b n)[72]? = some (.int .u64 n) := by
  unfold scells
  rw [List.getElem?_append_right (by simp [hs, hb])]
  simp [hs, hb]
theorem scells_set_n (hs : s.length = 8) (hb : b.length = 64) (k : Nat) : splice (scells s b n) 72 [.int .u64 k] = scells s b k := by
  have h := splice_mid (s.map uv ++ b.map bv) [.int .u64 (n : Int)] [] 0 [.int .u64 (k : Int)] (by simp)
  rw [List.append_nil, List.append_nil, splice_all _ _ (by simp)] at h
  unfold scells
  rw [← h]
  congr 1
  simp [hs, hb]
theorem scells_set_state (hs : s.length = 8) (s' : List Nat) (hs' : s'.length = 8) : splice (scells s b n) 0 (s'.map uv) = scells s' b n := by
  have h := splice_mid [] (s.map uv) (b.map bv ++ [.int .u64 (n : Int)]) 0 (s'.map uv) (by simp [hs, hs'])
  rw [splice_all _ _ (by simp [hs, hs'])] at h
  unfold scells
  simpa using h
theorem scells_set_block (hs : s.length = 8) (p : Nat) (t : List UInt8) (h : p + t.length ≤ b.length) : splice (scells s b n) (8 + p) (t.map bv) = scells s (splice b p t) n := by
  have h := splice_mid (s.map uv) (b.map bv) [.int .u64 (n : Int)] p (t.map bv) (by simpa using h)
  rw [List.length_map, hs] at h
  unfold scells
  rw [h, splice_map]
end
theorem size_str : (Tryd.prog.info? 103).map (·.size) = some 73 := by kernel_rfl
theorem stream_one (s : List Nat) (b : List UInt8) (n : Nat) : ∀ u ∈ (Value.agg (scells s b n).toArray).cells.toList, u.oneCell' = true := by
  intro u hu
  have hu : u ∈ scells s b n := hu
  unfold scells at hu
  simp only [List.mem_append, List.mem_map, List.mem_singleton] at hu
  rcases hu with (⟨x, _, rfl⟩ | ⟨x, _, rfl⟩) | rfl <;> rfl

theorem zero_str : Tryd.zeroCells103 = (scells (List.replicate 8 0) (List.replicate 64 0) 0).toArray := by kernel_rfl
theorem zero_len : (scells (List.replicate 8 0) (List.replicate 64 0) 0).length = 73 := scells_len rfl rfl

set_option maxRecDepth 100000 in
theorem begin_any (w : World) : Calls Tryd.prog 63 #[] w fun e w' => e = .returned (.agg (scells Sha.start (List.replicate 64 0) 0).toArray) ∧ Below w.heap.size w w' := by
  have hl : (scells Sha.start (List.replicate 64 0) 0).length = 73 := scells_len rfl rfl
  have hsz : Hid ((Tryd.prog.info? 103).map (·.size) = some (Value.agg (scells Sha.start (List.replicate 64 0) 0).toArray).cells.size) := size_str
  go_enter Tryd.func63, Tryd.ntmps63
  go_wp2_with (refine wpList_blk_store rfl 103 _ _ rfl 0 (.agg (scells Sha.start (List.replicate 64 0) 0).toArray) rfl (by kernel_rfl) (Blk.new' w _ _) hsz.out (by rw [zero_str]; exact Nat.le_refl _) (stream_one _ _ _) ?_; intro w3 hR3 ho3)
  have hall : splice (Tryd.zeroCells103).toList 0 (Value.agg (scells Sha.start (List.replicate 64 0) 0).toArray).cells.toList = scells Sha.start (List.replicate 64 0) 0 := by
    rw [zero_str]
    exact splice_all _ _ rfl
  refine bodyPost_ret (ret_blk rfl _ w3 (g := w.heap.size) rfl (hR3.out) _ Tryd.underlying103 rfl ?_) rfl ⟨?_, ((Below.refl _ _).alloc (by simp) _).trans (ho3.below (by omega))⟩
  · rw [hall]; exact hsz.out
  · rw [hall]

theorem size_u64 : (Tryd.prog.info? 55).map (·.size) = some 1 := by kernel_rfl
theorem bs_toList' (l : List UInt8) : (bs l).data.toList = l := rfl
theorem bs_extract (l : List UInt8) (k : Nat) : (bs l).extract k (bs l).size = bs (l.drop k) := by
  unfold bs
  apply ByteArray.ext
  apply Array.ext'
  simp [ByteArray.size]
  exact List.take_of_length_le (by rw [List.length_drop]; omega)
def lenOf : Value → Nat
  | .string s => s.size
  | _ => 0

set_option maxRecDepth 100000 in
set_option maxHeartbeats 1000000 in
theorem add_any (m t : List UInt8) (s : List Nat) (b : List UInt8) (w : World) (hh : Sha.Holds m s b) (hlen : m.length + t.length ≤ 1000000000) (ht : Tab 2 w) :
    Calls Tryd.prog 64 #[.agg (scells s b m.length).toArray, sv t] w fun e w' => (∃ s' b', Sha.Holds (m ++ t) s' b' ∧ e = .returned (.agg (scells s' b' (m ++ t).length).toArray)) ∧ Below w.heap.size w w' := by
  have hT := Lib.hid ht
  have hz := Lib.hid zero_str
  unfold sv
  go_enter Tryd.func64, Tryd.ntmps64
  go_wp2_with fail
  go_loopw [1] (fun x wr => ∃ (q r : List UInt8) (s' : List Nat) (b' : List UInt8), q ++ r = m ++ t ∧ x = .string (bs r) ∧ Sha.Holds q s' b' ∧ Blk wr w.heap.size (scells s' b' q.length) 103 ∧ Blk wr (w.heap.size + 1) (scells (List.replicate 8 0) (List.replicate 64 0) 0) 103 ∧ Below w.heap.size w wr) (fun x _ => lenOf x)
  case atStart => exact ⟨m, t, s, b, rfl, rfl, hh, (Blk.new _ _ _).alloc _, (by rw [hz.out]; exact (Blk.new _ _ _).at (by simp)), ((Below.refl _ _).alloc (by simp) _).alloc (by simp) _⟩
  case round =>
    clear hh
    obtain ⟨q, r, s1, b1, hqr, rfl, hh, hB0, hR0, hbw⟩ := hrel
    have hB := Lib.hid hB0
    have hR := Lib.hid hR0
    have hS8 := hh.len
    have hb64 := hh.2.1
    have hql : q.length + r.length ≤ 1000000000 := by
      have := congrArg List.length hqr
      rw [List.length_append, List.length_append] at this
      omega
    have HS := Lib.hid (bs_size r)
    have hqr' := Lib.hid hqr
    have hh' := Lib.hid hh
    have hcell : wr.cell? ⟨w.heap.size, 72, none⟩ = some (.int .u64 (q.length : Int)) := hB0.cell (scells_n hS8 hb64)
    clear hB0 hR0 hqr hh
    by_cases hr0 : 0 < r.length
    · have t1 : 0 < (bs r).size := by rw [HS.out]; exact hr0
      obtain ⟨S, hS⟩ : ∃ S, bs r = S := ⟨_, rfl⟩
      rw [hS] at t1
      have hSS := Lib.hid hS
      have ad8 : (⟨w.heap.size, 8, none⟩ : Addr).add (q.length % 64) = ⟨w.heap.size, 8 + q.length % 64, none⟩ := Addr.add_mid _ _ _
      have pl : q.length % 64 < 64 := Nat.mod_lt _ (by decide)
      obtain ⟨k, hk⟩ : ∃ k, k = min S.size (64 - q.length % 64) := ⟨_, rfl⟩
      have hSr : S.data.toList = r := by rw [← hS]; exact bs_toList' r
      have hSz : S.size = r.length := by rw [← hS]; exact HS.out
      have hUl : (r.take k).length = k := by rw [List.length_take]; omega
      obtain ⟨n2, hn2⟩ : ∃ n2, n2 = (q ++ r.take k).length := ⟨_, rfl⟩
      have hn2' : n2 = q.length + k := by rw [hn2, List.length_append, hUl]
      obtain ⟨b2, hb2⟩ : ∃ b2, b2 = splice b1 (q.length % 64) (r.take k) := ⟨_, rfl⟩
      have hb2l : b2.length = 64 := by rw [hb2, length_splice _ _ _ (by omega)]; exact hb64
      have hSV : Hid (Value.slice (some ⟨w.heap.size, 8 + q.length % 64, none⟩) (64 - q.length % 64) (64 - q.length % 64) = .slice (some (if 64 = q.length % 64 then (⟨w.heap.size, 8, none⟩ : Addr) else (⟨w.heap.size, 8, none⟩ : Addr).add (q.length % 64))) (64 - q.length % 64) (64 - q.length % 64)) := by
        show _ = _
        rw [if_neg (by omega), ad8]
      have hfit : 8 + q.length % 64 + (64 - q.length % 64) ≤ (scells s1 b1 q.length).length := by rw [scells_len hS8 hb64]; omega
      have F1 : Hid (∀ W, Hid (Blk W w.heap.size (splice (scells s1 b1 q.length) (8 + q.length % 64) ((S.data.toList.take k).map bv)) 103) → Hid (Blk W w.heap.size (scells s1 b2 q.length) 103)) := fun W h => by
        have := h.out; rw [hSr, scells_set_block hS8 _ _ (by rw [hUl, hb64]; omega), ← hb2] at this; exact this
      have F2 : Hid (∀ W, Hid (Blk W w.heap.size (splice (scells s1 b2 q.length) 72 [.int .u64 (n2 : Int)]) 103) → Hid (Blk W w.heap.size (scells s1 b2 n2) 103)) := fun W h => by
        have := h.out; rw [scells_set_n hS8 hb2l] at this; exact this
      have C1 : Hid (∀ W, Hid (Blk W w.heap.size (scells s1 b2 q.length) 103) → W.cell? ⟨w.heap.size, 72, none⟩ = some (.int .u64 (q.length : Int))) := fun W h => h.out.cell (scells_n hS8 hb2l)
      have C2 : Hid (∀ W, Hid (Blk W w.heap.size (scells s1 b2 n2) 103) → W.cell? ⟨w.heap.size, 72, none⟩ = some (.int .u64 (n2 : Int))) := fun W h => h.out.cell (scells_n hS8 hb2l)
      have hex : S.extract k S.size = bs (r.drop k) := by rw [← hS]; exact bs_extract r k
      have hks : k ≤ S.size := by omega
      have ek : IntKind.u64.wrap (k : Int) = k := by rw [IntKind.wrap_u64]; omega
      have ea : IntKind.u64.wrap ((q.length : Int) + k) = n2 := by rw [IntKind.wrap_u64]; omega
      have hl2 : (scells s1 b2 q.length).length = 73 := scells_len hS8 hb2l
      have hk0 : 0 < k := by omega
      have hmeas : Hid ((bs (r.drop k)).size < S.size) := by show _ < _; rw [bs_size, List.length_drop]; omega
      have hqr2 : Hid ((q ++ r.take k) ++ r.drop k = m ++ t) := by show _ = _; rw [List.append_assoc, List.take_append_drop]; exact hqr'.out
      rw [hS]
      have pl' := Lib.hid pl
      have hk' := Lib.hid hk
      by_cases hw0 : n2 % 64 = 0
      · have hH : Hid (Sha.Holds (q ++ r.take k) (Sha.compress s1 b2) b2) := by show Sha.Holds _ _ _; rw [hb2]; exact hh'.out.whole (by rw [hUl]; omega)
        have t2 : (n2 : Int) % 64 = 0 := by omega
        have hn2h := Lib.hid hn2
        have hTw := Lib.hid (hT.out.on hbw)
        have HC := Lib.hid (fun W => compress_any s1 b2 W hS8 hh'.out.small hb2l)
        have hsz1 : Hid ((Tryd.prog.info? 100).map (·.size) = some (s1.map uv).length) := by show _ = _; rw [List.length_map, hS8]; exact size_w8
        have hsz2 : Hid ((Tryd.prog.info? 101).map (·.size) = some (b2.map bv).length) := by show _ = _; rw [List.length_map, hb2l]; exact size_b64
        have hsz3 : Hid ((Tryd.prog.info? 100).map (·.size) = some (Value.agg ((Sha.compress s1 b2).map uv).toArray).cells.size) := by show _ = some ((Sha.compress s1 b2).map uv).toArray.size; rw [List.size_toArray, List.length_map, Sha.compress_len _ _ hS8]; exact size_w8
        have hl3 : 0 + (Value.agg ((Sha.compress s1 b2).map uv).toArray).cells.size ≤ (scells s1 b2 n2).length := by
          show 0 + ((Sha.compress s1 b2).map uv).toArray.size ≤ _
          rw [List.size_toArray, List.length_map, Sha.compress_len _ _ hS8, scells_len hS8 hb2l]
          omega
        have hst := scells_state (s := s1) (b := b2) (n := n2) hS8
        have hbl := scells_block (s := s1) (b := b2) (n := n2) hS8
        have F3 : Hid (∀ W, Hid (Blk W w.heap.size (splice (scells s1 b2 n2) 0 (Value.agg ((Sha.compress s1 b2).map uv).toArray).cells.toList) 103) → Hid (Blk W w.heap.size (scells (Sha.compress s1 b2) b2 n2) 103)) := fun W h => by
          have := h.out
          rw [show (Value.agg ((Sha.compress s1 b2).map uv).toArray).cells.toList = (Sha.compress s1 b2).map uv from rfl, scells_set_state hS8 _ (Sha.compress_len _ _ hS8)] at this
          exact this
        have hst' := Lib.hid hst
        have hbl' := Lib.hid hbl
        clear hS pl hk ad8 hSr hSz hUl hn2 hn2' hb2 hh' hw0 hk0 hS8 hb64 hb2l hst hbl
        go_wp2_with (first | (refine wpList_slice_arr rfl 101 _ _ _ rfl ⟨w.heap.size, 8, none⟩ rfl 64 5 Tryd.underlying101 size_u8 (q.length % 64) 64 (.inr ⟨_, _, rfl, rfl⟩) (.inl ⟨rfl, rfl⟩) (Nat.le_of_lt pl'.out) (Nat.le_refl _) _ hSV.out ?_) | (refine wpList_blk_copy rfl _ _ _ _ rfl 5 Tryd.underlying75 size_u8 (g := w.heap.size) (8 + q.length % 64) (64 - q.length % 64) (64 - q.length % 64) S rfl rfl k hk'.out hB.out hfit ?_; intro w3 hW3' ho3; have hW3 := F1.out w3 hW3'; have c3 := C1.out w3 hW3; clear hW3') | (refine wpList_blk_store rfl 55 _ _ rfl 72 (.int .u64 (n2 : Int)) rfl rfl hW3.out size_u64 (by rw [hl2]; exact Nat.le_refl _) (one_int _ _) ?_; intro w4 hW4' ho4; have hW4 := F2.out w4 hW4'; have c4 := C2.out w4 hW4; clear hW4') | (refine wpList_blk_load rfl 100 _ rfl 0 rfl hW4.out (s1.map uv) hst'.out (.array 8 99) Tryd.underlying100 rfl hsz1.out ?_) | (refine wpList_blk_load rfl 101 _ rfl 8 rfl hW4.out (b2.map bv) hbl'.out (.array 64 5) Tryd.underlying101 rfl hsz2.out ?_))
        refine (HC.out _ ?_).mono ?_
        · exact (hTw.out.below ((ho3.trans ho4).below (B := w.heap.size) (by omega)) hT.out.1)
        rintro e w5 ⟨rfl, hb5⟩
        have hW5 := Lib.hid (hW4.out.below hb5 hW4.out.lt)
        have hb35 : Below w.heap.size w w5 := (hbw.trans ((ho3.trans ho4).below (by omega))).trans (hb5.mono (by have := hbw.size; have := ho3.size; have := ho4.size; omega))
        have hR5 := Lib.hid (((hR.out.only ho3 (by omega)).only ho4 (by omega)).below hb5 (by have := hR.out.lt; have := ho3.size; have := ho4.size; omega))
        clear hb5
        go_wp2_with (refine wpList_blk_store rfl 100 _ _ rfl 0 (.agg ((Sha.compress s1 b2).map uv).toArray) rfl rfl hW5.out hsz3.out hl3 (words_one _) ?_; intro w6 hW6' ho6; have hW6 := F3.out w6 hW6'; clear hW6')
        simp only [Act.put]
        go_roundw
        case rel => exact ⟨q ++ r.take k, r.drop k, Sha.compress s1 b2, b2, hqr2.out, rfl, hH.out, by rw [← hn2h.out]; exact hW6.out, hR5.out.only ho6 (by omega), hb35.trans (ho6.below (by omega))⟩
        case measure => exact hmeas.out
      · have hH : Hid (Sha.Holds (q ++ r.take k) s1 b2) := by show Sha.Holds _ _ _; rw [hb2]; exact hh'.out.part (by rw [hUl]; omega)
        have t2 : ¬ (n2 : Int) % 64 = 0 := by omega
        have hn2h := Lib.hid hn2
        clear hS pl hk ad8 hSr hSz hUl hn2 hn2' hb2 hh' hw0 hk0 hS8 hb64 hb2l
        go_wp2_with (first | (refine wpList_slice_arr rfl 101 _ _ _ rfl ⟨w.heap.size, 8, none⟩ rfl 64 5 Tryd.underlying101 size_u8 (q.length % 64) 64 (.inr ⟨_, _, rfl, rfl⟩) (.inl ⟨rfl, rfl⟩) (Nat.le_of_lt pl'.out) (Nat.le_refl _) _ hSV.out ?_) | (refine wpList_blk_copy rfl _ _ _ _ rfl 5 Tryd.underlying75 size_u8 (g := w.heap.size) (8 + q.length % 64) (64 - q.length % 64) (64 - q.length % 64) S rfl rfl k hk'.out hB.out hfit ?_; intro w3 hW3' ho3; have hW3 := F1.out w3 hW3'; have c3 := C1.out w3 hW3; clear hW3') | (refine wpList_blk_store rfl 55 _ _ rfl 72 (.int .u64 (n2 : Int)) rfl rfl hW3.out size_u64 (by rw [hl2]; exact Nat.le_refl _) (one_int _ _) ?_; intro w4 hW4' ho4; have hW4 := F2.out w4 hW4'; have c4 := C2.out w4 hW4; clear hW4'))
        go_roundw
        case rel => exact ⟨q ++ r.take k, r.drop k, s1, b2, hqr2.out, rfl, hH.out, by rw [← hn2h.out]; exact hW4.out, (hR.out.only ho3 (by omega)).only ho4 (by omega), hbw.trans ((ho3.trans ho4).below (by omega))⟩
        case measure => exact hmeas.out
    · have hr : r = [] := List.eq_nil_of_length_eq_zero (by omega)
      subst hr
      have hqe : q = m ++ t := by have := hqr'.out; simpa using this
      have t1 : ¬ (0 : Int) < (bs []).size := by rw [HS.out]; simp
      have t2 : (bs []).size = 0 := HS.out
      have hsz : Hid ((Tryd.prog.info? 103).map (·.size) = some (scells s1 b1 q.length).length) := by show _ = _; rw [scells_len hS8 hb64]; exact size_str
      have hsz2 : Hid ((Tryd.prog.info? 103).map (·.size) = some (Value.agg (scells s1 b1 q.length).toArray).cells.size) := hsz
      have hfit : 0 + (Value.agg (scells s1 b1 q.length).toArray).cells.size ≤ (scells (List.replicate 8 0) (List.replicate 64 0) 0).length := by
        rw [zero_len]; show 0 + (scells s1 b1 q.length).toArray.size ≤ 73; rw [List.size_toArray, scells_len hS8 hb64]; omega
      have hall : splice (scells (List.replicate 8 0) (List.replicate 64 0) 0) 0 (Value.agg (scells s1 b1 q.length).toArray).cells.toList = scells s1 b1 q.length := by
        show splice _ 0 (scells s1 b1 q.length) = _
        rw [splice_all _ _ (by rw [zero_len, scells_len hS8 hb64])]
      have hall' := Lib.hid hall
      generalize bs [] = S at t1 t2
      clear hall hqr' HS hr0 hcell
      go_wp2_with (first | (refine wpList_blk_load rfl 103 _ rfl 0 rfl hB.out (scells s1 b1 q.length) (take_all0 _) _ Tryd.underlying103 rfl hsz.out ?_) | (refine wpList_blk_store rfl 103 _ _ rfl 0 (.agg (scells s1 b1 q.length).toArray) rfl rfl hR.out hsz2.out hfit (stream_one _ _ _) ?_; intro w3 hR3 ho3))
      refine bodyPost_ret (ret_blk rfl _ w3 (g := w.heap.size + 1) rfl (hR3.out) _ Tryd.underlying103 rfl ?_) rfl ⟨⟨s1, b1, ?_, ?_⟩, hbw.trans (ho3.below (by omega))⟩
      · rw [hall'.out]; exact hsz.out
      · rw [← hqe]; exact hh'.out
      · rw [hall'.out, hqe, List.length_append]
end Go.Proofs.YtlgokfgiemaklaaDoor

namespace Go.Proofs.YtlgokfgiemaklaaDoor
set_option linter.unusedVariables false
open Go.RowKit

theorem splice_next {α : Type} (L Y : List α) (o j : Nat) (y : α) (hy : Y[j]? = some y) (h : o + Y.length ≤ L.length) : splice (splice L o (Y.take j)) (o + j) [y] = splice L o (Y.take (j + 1)) := by
  obtain ⟨hj, hyg⟩ := List.getElem?_eq_some_iff.1 hy
  have h1 : (Y.take j).length = j := by rw [List.length_take]; omega
  have h2 : (L.take o).length = o := by rw [List.length_take]; omega
  have h3 : (Y.take (j + 1)).length = j + 1 := by rw [List.length_take]; omega
  have hX : (L.take o ++ Y.take j).length = o + j := by rw [List.length_append, h1, h2]
  have e : L.take o ++ (Y.take j ++ L.drop (o + j)) = (L.take o ++ Y.take j) ++ L.drop (o + j) := by rw [List.append_assoc]
  unfold splice
  rw [h1, h3, e, List.take_left' hX, show o + j + [y].length = (L.take o ++ Y.take j).length + 1 by rw [hX]; rfl, List.drop_length_add_append, List.drop_drop, List.take_succ_eq_append_getElem hj, hyg]
  simp [Nat.add_assoc]
/-- The block behind the byte 128 and the zeros. -/
theorem pad_block (b : List UInt8) (p : Nat) (hb : b.length = 64) (hp : p < 64) : splice (splice b p [128]) (p + 1) (List.replicate (64 - (p + 1)) 0) = b.take p ++ 128 :: List.replicate (63 - p) 0 := by
  have h1 : (b.take p).length = p := by rw [List.length_take]; omega
  have e : splice b p [128] = (b.take p ++ [128]) ++ b.drop (p + 1) := by
    unfold splice
    rw [List.append_assoc]
    rfl
  have hX : (b.take p ++ [(128 : UInt8)]).length = p + 1 := by rw [List.length_append, h1]; rfl
  rw [e]
  unfold splice
  rw [List.take_left' hX, List.length_replicate, List.drop_eq_nil_of_le (by rw [List.length_append, hX, List.length_drop]; omega), List.append_nil, List.append_assoc, show 64 - (p + 1) = 63 - p by omega]
  rfl
theorem be_block (c be : List UInt8) (hc : c.length = 64) (hb : be.length = 8) : splice c 56 be = c.take 56 ++ be := by
  unfold splice
  rw [hb, List.drop_eq_nil_of_le (by omega), List.append_nil]
/-- What the last step of Sum starts from. -/
theorem sum_last {m b : List UInt8} {s : List Nat} (h : Sha.Holds m s b) (hp : m.length % 64 < 56) :
    Sha.sum m = Sha.bytes (Sha.compress s (splice (b.take (m.length % 64) ++ 128 :: List.replicate (63 - m.length % 64) 0) 56 (Sha.be64 (8 * m.length)))) := by
  have hl : (b.take (m.length % 64)).length = m.length % 64 := by rw [List.length_take, h.2.1]; omega
  rw [Sha.sum_short h hp, be_block _ _ (by rw [List.length_append, hl, List.length_cons, List.length_replicate]; omega) rfl]
  congr 3
  rw [show 63 - m.length % 64 = 55 - m.length % 64 + 8 by omega, ← List.replicate_append_replicate, ← List.cons_append, ← List.append_assoc]
  exact (List.take_left' (by rw [List.length_append, hl, List.length_cons, List.length_replicate]; omega)).symm
theorem sum_last2 {m b : List UInt8} {s : List Nat} (h : Sha.Holds m s b) (hp : 56 ≤ m.length % 64) :
    Sha.sum m = Sha.bytes (Sha.compress (Sha.compress s (b.take (m.length % 64) ++ 128 :: List.replicate (63 - m.length % 64) 0)) (splice (List.replicate 64 0) 56 (Sha.be64 (8 * m.length)))) := by
  rw [Sha.sum_long h hp, be_block _ _ (by simp) rfl]
  rfl
theorem zero_u8 : ∀ w, (zeroValue 5).run Tryd.prog w = .ok (.int .u8 0) w := by
  have h : (Tryd.prog.info? 5).map (fun i => (i.zero, i.size)) = some (some (.int .u8 0), 1) := by kernel_rfl
  exact (zero_of_info h).1

set_option maxRecDepth 100000 in
set_option maxHeartbeats 2000000 in
theorem streamSum_any (m : List UInt8) (s : List Nat) (b : List UInt8) (w : World) (hh : Sha.Holds m s b) (hlen : m.length ≤ 1000000000) (ht : Tab 2 w) :
    Calls Tryd.prog 65 #[.agg (scells s b m.length).toArray] w fun e w' => e = .returned (.agg ((Sha.sum m).map bv).toArray) ∧ Below w.heap.size w w' := by
  have hT := Lib.hid ht
  have hs8 := hh.len
  have hb64 := hh.2.1
  have hsm := hh.small
  obtain ⟨Y, hY⟩ : ∃ Y, Y = Sha.be64 (8 * m.length) := ⟨_, rfl⟩
  have hYe := Lib.hid hY
  have hYl : Hid (Y.length = 8) := by show _ = _; rw [hY]; rfl
  have HBE : Hid (∀ W, Calls Tryd.prog 81 #[.int .u64 ((8 * m.length : Nat) : Int)] W fun e w' => e = .returned (.agg (Y.map bv).toArray) ∧ Below W.heap.size W w') := by rw [hY]; exact fun W => be64_any (8 * m.length) W
  have pl : m.length % 64 < 64 := Nat.mod_lt _ (by decide)
  have f1 : (0 : Int) ≤ (m.length : Int) % 64 := by omega
  have f2 : (m.length : Int) % 64 < 64 := by omega
  have f3 : ((m.length : Int) % 64).toNat = m.length % 64 := by omega
  have f4 : IntKind.u64.wrap ((m.length : Int) % 64 + 1) = (m.length : Int) % 64 + 1 := by rw [IntKind.wrap_u64]; omega
  have f5 : IntKind.u64.wrap (8 * (m.length : Int)) = ((8 * m.length : Nat) : Int) := by rw [IntKind.wrap_u64]; omega
  obtain ⟨b1, hb1⟩ : ∃ b1, b1 = splice b (m.length % 64) [128] := ⟨_, rfl⟩
  have hb1l : b1.length = 64 := by rw [hb1, length_splice _ _ _ (by rw [List.length_singleton]; omega), hb64]
  obtain ⟨c, hc⟩ : ∃ c, c = b.take (m.length % 64) ++ 128 :: List.replicate (63 - m.length % 64) 0 := ⟨_, rfl⟩
  have hcc : splice b1 (m.length % 64 + 1) (List.replicate (64 - (m.length % 64 + 1)) 0) = c := by rw [hb1, hc]; exact pad_block b _ hb64 pl
  have hc64 : c.length = 64 := by rw [← hcc, length_splice _ _ _ (by rw [List.length_replicate]; omega), hb1l]
  have F1 : Hid (∀ W, Hid (Blk W w.heap.size (splice (scells s b m.length) (8 + m.length % 64) [.int .u8 128]) 103) → Hid (Blk W w.heap.size (scells s b1 m.length) 103)) := fun W h => by
    have := h.out
    rw [show [Value.int .u8 128] = [(128 : UInt8)].map bv from rfl, scells_set_block hs8 _ _ (by rw [List.length_singleton]; omega), ← hb1] at this
    exact this
  have F2 : Hid (∀ W, Hid (Blk W w.heap.size (splice (scells s b1 m.length) (8 + (m.length % 64 + 1)) (List.replicate (64 - (m.length % 64 + 1)) (.int .u8 0))) 103) → Hid (Blk W w.heap.size (scells s c m.length) 103)) := fun W h => by
    have := h.out
    rw [show List.replicate (64 - (m.length % 64 + 1)) (Value.int .u8 0) = (List.replicate (64 - (m.length % 64 + 1)) (0 : UInt8)).map bv by rw [List.map_replicate]; rfl, scells_set_block hs8 _ _ (by rw [List.length_replicate]; omega), hcc] at this
    exact this
  have hl0 : 8 + m.length % 64 + 1 ≤ (scells s b m.length).length := by rw [scells_len hs8 hb64]; omega
  have hl1 : 8 + (m.length % 64 + 1) + (64 - (m.length % 64 + 1)) ≤ (scells s b1 m.length).length := by rw [scells_len hs8 hb1l]; omega
  obtain ⟨A, hA⟩ : ∃ A, A = (if 64 = m.length % 64 + 1 then (⟨w.heap.size, 8, none⟩ : Addr) else (⟨w.heap.size, 8, none⟩ : Addr).add (m.length % 64 + 1)) := ⟨_, rfl⟩
  have hAn : 0 < 64 - (m.length % 64 + 1) → some A = some ⟨w.heap.size, 8 + (m.length % 64 + 1), none⟩ := fun h => by
    rw [hA, if_neg (by omega), Addr.add_mid]
  have hAv : Hid (Value.slice (some A) (64 - (m.length % 64 + 1)) (64 - (m.length % 64 + 1)) = .slice (some (if 64 = m.length % 64 + 1 then (⟨w.heap.size, 8, none⟩ : Addr) else (⟨w.heap.size, 8, none⟩ : Addr).add (m.length % 64 + 1))) (64 - (m.length % 64 + 1)) (64 - (m.length % 64 + 1))) := by show _ = _; rw [hA]
  have hp1 : m.length % 64 + 1 ≤ 64 := by omega
  have hB0 := (Blk.new w (scells s b m.length) 103)
  have hcell : ∀ o, (w.alloc (.cells (scells s b m.length).toArray 103)).cell? ⟨w.heap.size, 72, none⟩ = some (.int .u64 (m.length : Int)) ∧ ((w.alloc (.cells (scells s b m.length).toArray 103)).alloc o).cell? ⟨w.heap.size, 72, none⟩ = some (.int .u64 (m.length : Int)) := fun o => ⟨hB0.cell (scells_n hs8 hb64), (hB0.alloc o).cell (scells_n hs8 hb64)⟩
  have hcell2 := fun o => (hcell o).2
  have hB1 := Lib.hid (fun o => hB0.alloc o)
  have hR1 := Lib.hid ((Blk.new (w.alloc (.cells (scells s b m.length).toArray 103)) (bz 32) 98).at (g2 := w.heap.size + 1) (by simp))
  have hbel : Hid (∀ o, Below w.heap.size w ((w.alloc (.cells (scells s b m.length).toArray 103)).alloc o)) := fun o => ((Below.refl _ _).alloc (by simp) _).alloc (by simp) _
  by_cases hp : m.length % 64 < 56
  · have hfin : Hid (Sha.sum m = Sha.bytes (Sha.compress s (splice c 56 Y))) := by show _ = _; rw [hc, hY]; exact sum_last hh hp
    have t : (m.length : Int) % 64 < 56 := by omega
    have hs28 := hs8
    have hs2sm := hsm
    clear hcell hb1 hc hcc hA hb64 hb1l hY hh ht hs8 hsm pl hp hB0
    go_enter Tryd.func65, Tryd.ntmps65
    go_wp2_with (first | (refine wpList_blk_store rfl 5 _ _ rfl (8 + m.length % 64) (.int .u8 128) rfl rfl (hB1.out _) size_u8 hl0 (one_int _ _) ?_; intro w3 hW3' ho3; have hW3 := F1.out w3 hW3'; clear hW3') | (refine wpList_slice_arr rfl 101 _ _ _ rfl ⟨w.heap.size, 8, none⟩ rfl 64 5 Tryd.underlying101 size_u8 (m.length % 64 + 1) 64 (.inr ⟨_, _, rfl, rfl⟩) (.inl ⟨rfl, rfl⟩) hp1 (Nat.le_refl _) _ hAv.out ?_) | (refine wpList_blk_clear rfl _ _ rfl 5 Tryd.underlying75 zero_u8 (some A) (8 + (m.length % 64 + 1)) _ _ rfl hAn hW3.out hl1 ?_; intro w4 hW4' ho4; have hW4 := F2.out w4 hW4'; have c4 : w4.cell? ⟨w.heap.size, 72, none⟩ = some (.int .u64 (m.length : Int)) := hW4.out.cell (scells_n hs28 hc64); clear hW4'))
    have hW := Lib.hid (hW4.out)
    have hRr := Lib.hid ((hR1.out.only ho3 (by omega)).only ho4 (by omega))
    have hbw : Below w.heap.size w w4 := (hbel.out _).trans ((ho3.trans ho4).below (by omega))
    refine (HBE.out _).mono ?_
    rintro e w8 ⟨rfl, hb8⟩
    have hW8 := hW.out.below hb8 hW.out.lt
    have hR8 := hRr.out.below hb8 hRr.out.lt
    have hb8' : Below w.heap.size w w8 := hbw.trans (hb8.mono hbw.size)
    clear hW hRr hbw hb8
    go_wp2_with fail
    go_loopw [30] (fun i wr => ∃ k : Nat, k ≤ 8 ∧ i = .int .i64 k ∧ Blk wr w.heap.size (scells s (splice c 56 (Y.take k)) m.length) 103 ∧ Blk wr (w.heap.size + 1) (bz 32) 98 ∧ Below w.heap.size w wr) (fun i _ => 8 - (intOf i).toNat)
    case atStart => exact ⟨0, by omega, rfl, by rw [List.take_zero, show splice c 56 [] = c from by unfold splice; simp]; exact hW8, hR8, hb8'⟩
    case round =>
      clear hW8 hR8 hb8'
      obtain ⟨k, hk, rfl, hB0, hR0, hbw⟩ := hrel
      have hY8 := hYl.out
      have hcl : ∀ k, k ≤ 8 → (splice c 56 (Y.take k)).length = 64 := fun k hk => by rw [length_splice _ _ _ (by rw [List.length_take, hY8, hc64]; omega), hc64]
      by_cases hlt : k < 8
      · obtain ⟨y, hy⟩ : ∃ y, Y[k]? = some y := ⟨_, List.getElem?_eq_getElem (by rw [hY8]; exact hlt)⟩
        have hyv : Hid ((Y.map bv).toArray[k]? = some (bv y)) := by show _ = _; rw [List.getElem?_toArray, List.getElem?_map, hy]; rfl
        have hnx : Hid (∀ W, Hid (Blk W w.heap.size (splice (scells s (splice c 56 (Y.take k)) m.length) (8 + (56 + k)) [bv y]) 103) → Hid (Blk W w.heap.size (scells s (splice c 56 (Y.take (k + 1))) m.length) 103)) := fun W h => by
          have := h.out
          rw [show [bv y] = [y].map bv from rfl, scells_set_block hs28 (56 + k) [y] (by rw [hcl k hk, List.length_singleton]; omega), splice_next _ _ _ _ _ hy (by rw [hY8, hc64]; omega)] at this
          exact this
        have hfit : 8 + (56 + k) + 1 ≤ (scells s (splice c 56 (Y.take k)) m.length).length := by rw [scells_len hs28 (hcl k hk)]; omega
        have e0 : IntKind.i64.wrap (56 + (k : Int)) = ((56 + k : Nat) : Int) := by rw [IntKind.wrap_i64]; omega
        have e1 : ((56 + k : Nat) : Int) < 64 := by omega
        have ik : (k : Int) < 8 := by omega
        have hB := Lib.hid hB0
        have hR := Lib.hid hR0
        have hone : ∀ u ∈ (bv y).cells.toList, u.oneCell' = true := one_int _ _
        clear hB0 hR0 hy hY8 hcl hs28 hc64
        generalize hyy : bv y = z at hyv hnx hone
        go_wp2_with (first | (refine wpList_index_arr rfl 120 _ _ rfl _ .i64 k rfl rfl 8 5 Tryd.underlying120 (.int .u8) Tryd.underlying5 rfl size_u8 hlt z hyv.out ?_) | (refine wpList_blk_store rfl 5 _ _ rfl (8 + (56 + k)) z rfl rfl hB.out (by rw [← hyy]; exact size_u8) (by rw [← hyy]; exact hfit) hone ?_; intro w3 hW3' ho3; have hW3 := hnx.out w3 (by rw [← hyy] at hW3' ⊢; exact hW3')))
        go_roundw
        case rel => exact ⟨k + 1, by omega, by go_num, hW3.out, hR.out.only ho3 (by omega), hbw.trans (ho3.below (by omega))⟩
        case measure => simp [intOf]; omega
      · have hkk : Y.take k = Y := List.take_of_length_le (by omega)
        rw [hkk] at hB0
        have hcl2 : (splice c 56 Y).length = 64 := by rw [length_splice _ _ _ (by rw [hY8, hc64]; omega), hc64]
        have hT9 := Lib.hid (hT.out.on hbw)
        have HC := Lib.hid (fun W => compress_any s (splice c 56 Y) W hs28 hs2sm hcl2)
        have HD := Lib.hid (fun W => bytesOf_any (Sha.compress s (splice c 56 Y)) W (Sha.compress_len _ _ hs28) (Sha.small_compress _ _))
        have hsz1 : Hid ((Tryd.prog.info? 100).map (·.size) = some (s.map uv).length) := by show _ = _; rw [List.length_map, hs28]; exact size_w8
        have hsz2 : Hid ((Tryd.prog.info? 101).map (·.size) = some ((splice c 56 Y).map bv).length) := by show _ = _; rw [List.length_map, hcl2]; exact size_b64
        have hst := Lib.hid (scells_state (s := s) (b := splice c 56 Y) (n := m.length) hs28)
        have hbl := Lib.hid (scells_block (s := s) (b := splice c 56 Y) (n := m.length) hs28)
        have hZ : (Sha.bytes (Sha.compress s (splice c 56 Y))).length = 32 := by rw [Sha.bytes_len, Sha.compress_len _ _ hs28]
        have hB := Lib.hid hB0
        have hR := Lib.hid hR0
        have t : ¬ (k : Int) < 8 := by omega
        clear hB0 hR0 hkk hlt hY8 hcl hs28 hs2sm
        go_wp2_with (first | (refine wpList_blk_load rfl 100 _ rfl 0 rfl hB.out (s.map uv) hst.out (.array 8 99) Tryd.underlying100 rfl hsz1.out ?_) | (refine wpList_blk_load rfl 101 _ rfl 8 rfl hB.out ((splice c 56 Y).map bv) hbl.out (.array 64 5) Tryd.underlying101 rfl hsz2.out ?_))
        refine (HC.out _ hT9.out).mono ?_
        rintro e w10 ⟨rfl, hb10⟩
        go_wp2_with fail
        refine (HD.out _).mono ?_
        rintro e w11 ⟨rfl, hb11⟩
        have hbz : Below w.heap.size w w11 := (hbw.trans (hb10.mono hbw.size)).trans (hb11.mono (Nat.le_trans hbw.size hb10.size))
        have hR11 := Lib.hid ((hR.out.below hb10 hR.out.lt).below hb11 (Nat.lt_of_lt_of_le hR.out.lt hb10.size))
        obtain ⟨Z, hZe⟩ : ∃ Z, Z = Sha.bytes (Sha.compress s (splice c 56 Y)) := ⟨_, rfl⟩
        rw [← hZe] at hZ ⊢
        have hZe' := Lib.hid (hfin.out.trans hZe.symm)
        clear hZe
        have hz32 : (bz 32).length = 32 := rfl
        have hsz : Hid ((Tryd.prog.info? 98).map (·.size) = some (Z.map bv).length) := by show _ = _; rw [List.length_map, hZ]; exact size_b32
        go_wp2_with (refine wpList_blk_store rfl 98 _ _ rfl 0 (.agg (Z.map bv).toArray) rfl rfl hR11.out (by simpa [Value.cells] using hsz.out) (by rw [hz32]; simpa [Value.cells] using Nat.le_of_eq hZ) (bytes_cells _) ?_; intro w12 hR12 ho12)
        have hall : splice (bz 32) 0 (Value.agg (Z.map bv).toArray).cells.toList = Z.map bv := by
          rw [splice_all _ _ (by rw [hz32]; simpa [Value.cells] using hZ)]
          rfl
        refine bodyPost_ret (ret_blk rfl _ w12 (g := w.heap.size + 1) rfl (hR12.out) (.array 32 5) Tryd.underlying98 rfl ?_) rfl ⟨?_, hbz.trans (ho12.below (by omega))⟩
        · rw [hall]; exact hsz.out
        · rw [hall, hZe'.out]
  · have hfin : Hid (Sha.sum m = Sha.bytes (Sha.compress (Sha.compress s c) (splice (List.replicate 64 0) 56 Y))) := by show _ = _; rw [hc, hY]; exact sum_last2 hh (by omega)
    have t : ¬ (m.length : Int) % 64 < 56 := by omega
    have t' : (56 : Int) ≤ (m.length : Int) % 64 := by omega
    obtain ⟨s', hs'⟩ : ∃ s', s' = Sha.compress s c := ⟨_, rfl⟩
    obtain ⟨c', hc'⟩ : ∃ c' : List UInt8, c' = List.replicate 64 0 := ⟨_, rfl⟩
    have hcz : Hid (c'.map bv = bz 64) := by show _ = _; rw [hc']; rfl
    rw [← hs', ← hc'] at hfin
    have hs28 : s'.length = 8 := by rw [hs']; exact Sha.compress_len _ _ hs8
    have hs2sm : Sha.Small s' := by rw [hs']; exact Sha.small_compress _ _
    have hc64' : c'.length = 64 := by rw [hc']; exact List.length_replicate
    have HC0 : Hid (∀ W, Tab 2 W → Calls Tryd.prog 80 #[.agg (s.map uv).toArray, .agg (c.map bv).toArray] W fun e w' => e = .returned (.agg (s'.map uv).toArray) ∧ Below W.heap.size W w') := by rw [hs']; exact fun W hW => compress_any s c W hs8 hsm hc64 hW
    have hz1 : Hid ((Tryd.prog.info? 100).map (·.size) = some (s.map uv).length) := by show _ = _; rw [List.length_map, hs8]; exact size_w8
    have hz2 : Hid ((Tryd.prog.info? 101).map (·.size) = some (c.map bv).length) := by show _ = _; rw [List.length_map, hc64]; exact size_b64
    have hz3 : Hid ((Tryd.prog.info? 100).map (·.size) = some (Value.agg (s'.map uv).toArray).cells.size) := by show _ = some (s'.map uv).toArray.size; rw [List.size_toArray, List.length_map, hs28]; exact size_w8
    have hz4 : Hid ((Tryd.prog.info? 101).map (·.size) = some (Value.agg (bz 64).toArray).cells.size) := size_b64
    have hst0 := Lib.hid (scells_state (s := s) (b := c) (n := m.length) hs8)
    have hbl0 := Lib.hid (scells_block (s := s) (b := c) (n := m.length) hs8)
    have hl3 : 0 + (Value.agg (s'.map uv).toArray).cells.size ≤ (scells s c m.length).length := by
      show 0 + (s'.map uv).toArray.size ≤ _
      rw [List.size_toArray, List.length_map, hs28, scells_len hs8 hc64]
      omega
    have hl4 : 8 + (Value.agg (bz 64).toArray).cells.size ≤ (scells s' c m.length).length := by rw [scells_len hs28 hc64]; exact Nat.le_of_ble_eq_true rfl
    have F3 : Hid (∀ W, Hid (Blk W w.heap.size (splice (scells s c m.length) 0 (Value.agg (s'.map uv).toArray).cells.toList) 103) → Hid (Blk W w.heap.size (scells s' c m.length) 103)) := fun W h => by
      have := h.out
      rw [show (Value.agg (s'.map uv).toArray).cells.toList = s'.map uv from rfl, scells_set_state hs8 _ hs28] at this
      exact this
    have F4 : Hid (∀ W, Hid (Blk W w.heap.size (splice (scells s' c m.length) 8 (Value.agg (bz 64).toArray).cells.toList) 103) → Hid (Blk W w.heap.size (scells s' c' m.length) 103)) := fun W h => by
      have h2 := h.out
      rw [show (Value.agg (bz 64).toArray).cells.toList = c'.map bv from hcz.out.symm, show 8 = 8 + 0 from rfl, scells_set_block hs28 0 c' (by rw [hc64', hc64]; exact Nat.le_refl _), splice_all _ _ (by rw [hc64', hc64])] at h2
      exact h2
    have HCELL : Hid (∀ W, Hid (Blk W w.heap.size (scells s' c' m.length) 103) → W.cell? ⟨w.heap.size, 72, none⟩ = some (.int .u64 (m.length : Int))) := fun W h => h.out.cell (scells_n hs28 hc64')
    have hone' : ∀ u ∈ (Value.agg (bz 64).toArray).cells.toList, u.oneCell' = true := by
      intro u hu
      have hu : u ∈ bz 64 := hu
      rw [List.eq_of_mem_replicate hu]
      rfl
    have HW4c : Hid (∀ W, Hid (Blk W w.heap.size (scells s c m.length) 103) → W.cell? ⟨w.heap.size, 72, none⟩ = some (.int .u64 (m.length : Int))) := fun W h => h.out.cell (scells_n hs8 hc64)
    clear hcell hb1 hc hcc hA hb64 hb1l hY hh ht hs8 hsm pl hp hB0 hs' hc' hc64
    go_enter Tryd.func65, Tryd.ntmps65
    go_wp2_with (first | (refine wpList_blk_store rfl 5 _ _ rfl (8 + m.length % 64) (.int .u8 128) rfl rfl (hB1.out _) size_u8 hl0 (one_int _ _) ?_; intro w3 hW3' ho3; have hW3 := F1.out w3 hW3'; clear hW3') | (refine wpList_slice_arr rfl 101 _ _ _ rfl ⟨w.heap.size, 8, none⟩ rfl 64 5 Tryd.underlying101 size_u8 (m.length % 64 + 1) 64 (.inr ⟨_, _, rfl, rfl⟩) (.inl ⟨rfl, rfl⟩) hp1 (Nat.le_refl _) _ hAv.out ?_) | (refine wpList_blk_clear rfl _ _ rfl 5 Tryd.underlying75 zero_u8 (some A) (8 + (m.length % 64 + 1)) _ _ rfl hAn hW3.out hl1 ?_; intro w4 hW4' ho4; have hW4 := F2.out w4 hW4'; have c4x := HW4c.out w4 hW4; clear hW4') | (refine wpList_blk_load rfl 100 _ rfl 0 rfl hW4.out (s.map uv) hst0.out (.array 8 99) Tryd.underlying100 rfl hz1.out ?_) | (refine wpList_blk_load rfl 101 _ rfl 8 rfl hW4.out (c.map bv) hbl0.out (.array 64 5) Tryd.underlying101 rfl hz2.out ?_))
    have hR4 := Lib.hid ((hR1.out.only ho3 (by omega)).only ho4 (by omega))
    have hB4 : Below w.heap.size w w4 := (hbel.out _).trans ((ho3.trans ho4).below (by omega))
    refine (HC0.out _ (hT.out.on hB4)).mono ?_
    rintro e w5 ⟨rfl, hb5⟩
    have hW5 := Lib.hid (hW4.out.below hb5 hW4.out.lt)
    have hR5 := Lib.hid (hR4.out.below hb5 hR4.out.lt)
    have hB5 : Below w.heap.size w w5 := hB4.trans (hb5.mono hB4.size)
    clear hb5
    go_wp2_with (first | (refine wpList_blk_store rfl 100 _ _ rfl 0 (.agg (s'.map uv).toArray) rfl rfl hW5.out hz3.out hl3 (words_one _) ?_; intro w6 hW6' ho6; have hW6 := F3.out w6 hW6'; clear hW6') | (refine wpList_blk_store rfl 101 _ _ rfl 8 (.agg (bz 64).toArray) rfl (by kernel_rfl) hW6.out hz4.out hl4 hone' ?_; intro w7 hW7' ho7; have hW7 := F4.out w7 hW7'; have c7 := HCELL.out w7 hW7; clear hW7'))
    have hW := Lib.hid (hW7.out)
    have hRr := Lib.hid ((hR5.out.only ho6 (by omega)).only ho7 (by omega))
    have hbw : Below w.heap.size w w7 := hB5.trans ((ho6.trans ho7).below (by omega))
    refine (HBE.out _).mono ?_
    rintro e w8 ⟨rfl, hb8⟩
    have hW8 := hW.out.below hb8 hW.out.lt
    have hR8 := hRr.out.below hb8 hRr.out.lt
    have hb8' : Below w.heap.size w w8 := hbw.trans (hb8.mono hbw.size)
    clear hW hRr hbw hb8
    go_wp2_with fail
    go_loopw [30] (fun i wr => ∃ k : Nat, k ≤ 8 ∧ i = .int .i64 k ∧ Blk wr w.heap.size (scells s' (splice c' 56 (Y.take k)) m.length) 103 ∧ Blk wr (w.heap.size + 1) (bz 32) 98 ∧ Below w.heap.size w wr) (fun i _ => 8 - (intOf i).toNat)
    case atStart => exact ⟨0, by omega, rfl, by rw [List.take_zero, show splice c' 56 [] = c' from by unfold splice; simp]; exact hW8, hR8, hb8'⟩
    case round =>
      clear hW8 hR8 hb8'
      obtain ⟨k, hk, rfl, hB0, hR0, hbw⟩ := hrel
      have hY8 := hYl.out
      have hcl : ∀ k, k ≤ 8 → (splice c' 56 (Y.take k)).length = 64 := fun k hk => by rw [length_splice _ _ _ (by rw [List.length_take, hY8, hc64']; omega), hc64']
      by_cases hlt : k < 8
      · obtain ⟨y, hy⟩ : ∃ y, Y[k]? = some y := ⟨_, List.getElem?_eq_getElem (by rw [hY8]; exact hlt)⟩
        have hyv : Hid ((Y.map bv).toArray[k]? = some (bv y)) := by show _ = _; rw [List.getElem?_toArray, List.getElem?_map, hy]; rfl
        have hnx : Hid (∀ W, Hid (Blk W w.heap.size (splice (scells s' (splice c' 56 (Y.take k)) m.length) (8 + (56 + k)) [bv y]) 103) → Hid (Blk W w.heap.size (scells s' (splice c' 56 (Y.take (k + 1))) m.length) 103)) := fun W h => by
          have := h.out
          rw [show [bv y] = [y].map bv from rfl, scells_set_block hs28 (56 + k) [y] (by rw [hcl k hk, List.length_singleton]; omega), splice_next _ _ _ _ _ hy (by rw [hY8, hc64']; omega)] at this
          exact this
        have hfit : 8 + (56 + k) + 1 ≤ (scells s' (splice c' 56 (Y.take k)) m.length).length := by rw [scells_len hs28 (hcl k hk)]; omega
        have e0 : IntKind.i64.wrap (56 + (k : Int)) = ((56 + k : Nat) : Int) := by rw [IntKind.wrap_i64]; omega
        have e1 : ((56 + k : Nat) : Int) < 64 := by omega
        have ik : (k : Int) < 8 := by omega
        have hB := Lib.hid hB0
        have hR := Lib.hid hR0
        have hone : ∀ u ∈ (bv y).cells.toList, u.oneCell' = true := one_int _ _
        clear hB0 hR0 hy hY8 hcl hs28 hc64'
        generalize hyy : bv y = z at hyv hnx hone
        go_wp2_with (first | (refine wpList_index_arr rfl 120 _ _ rfl _ .i64 k rfl rfl 8 5 Tryd.underlying120 (.int .u8) Tryd.underlying5 rfl size_u8 hlt z hyv.out ?_) | (refine wpList_blk_store rfl 5 _ _ rfl (8 + (56 + k)) z rfl rfl hB.out (by rw [← hyy]; exact size_u8) (by rw [← hyy]; exact hfit) hone ?_; intro w3 hW3' ho3; have hW3 := hnx.out w3 (by rw [← hyy] at hW3' ⊢; exact hW3')))
        go_roundw
        case rel => exact ⟨k + 1, by omega, by go_num, hW3.out, hR.out.only ho3 (by omega), hbw.trans (ho3.below (by omega))⟩
        case measure => simp [intOf]; omega
      · have hkk : Y.take k = Y := List.take_of_length_le (by omega)
        rw [hkk] at hB0
        have hcl2 : (splice c' 56 Y).length = 64 := by rw [length_splice _ _ _ (by rw [hY8, hc64']; omega), hc64']
        have hT9 := Lib.hid (hT.out.on hbw)
        have HC := Lib.hid (fun W => compress_any s' (splice c' 56 Y) W hs28 hs2sm hcl2)
        have HD := Lib.hid (fun W => bytesOf_any (Sha.compress s' (splice c' 56 Y)) W (Sha.compress_len _ _ hs28) (Sha.small_compress _ _))
        have hsz1 : Hid ((Tryd.prog.info? 100).map (·.size) = some (s'.map uv).length) := by show _ = _; rw [List.length_map, hs28]; exact size_w8
        have hsz2 : Hid ((Tryd.prog.info? 101).map (·.size) = some ((splice c' 56 Y).map bv).length) := by show _ = _; rw [List.length_map, hcl2]; exact size_b64
        have hst := Lib.hid (scells_state (s := s') (b := splice c' 56 Y) (n := m.length) hs28)
        have hbl := Lib.hid (scells_block (s := s') (b := splice c' 56 Y) (n := m.length) hs28)
        have hZ : (Sha.bytes (Sha.compress s' (splice c' 56 Y))).length = 32 := by rw [Sha.bytes_len, Sha.compress_len _ _ hs28]
        have hB := Lib.hid hB0
        have hR := Lib.hid hR0
        have t : ¬ (k : Int) < 8 := by omega
        clear hB0 hR0 hkk hlt hY8 hcl hs28 hs2sm
        go_wp2_with (first | (refine wpList_blk_load rfl 100 _ rfl 0 rfl hB.out (s'.map uv) hst.out (.array 8 99) Tryd.underlying100 rfl hsz1.out ?_) | (refine wpList_blk_load rfl 101 _ rfl 8 rfl hB.out ((splice c' 56 Y).map bv) hbl.out (.array 64 5) Tryd.underlying101 rfl hsz2.out ?_))
        refine (HC.out _ hT9.out).mono ?_
        rintro e w10 ⟨rfl, hb10⟩
        go_wp2_with fail
        refine (HD.out _).mono ?_
        rintro e w11 ⟨rfl, hb11⟩
        have hbz : Below w.heap.size w w11 := (hbw.trans (hb10.mono hbw.size)).trans (hb11.mono (Nat.le_trans hbw.size hb10.size))
        have hR11 := Lib.hid ((hR.out.below hb10 hR.out.lt).below hb11 (Nat.lt_of_lt_of_le hR.out.lt hb10.size))
        obtain ⟨Z, hZe⟩ : ∃ Z, Z = Sha.bytes (Sha.compress s' (splice c' 56 Y)) := ⟨_, rfl⟩
        rw [← hZe] at hZ ⊢
        have hZe' := Lib.hid (hfin.out.trans hZe.symm)
        clear hZe
        have hz32 : (bz 32).length = 32 := rfl
        have hsz : Hid ((Tryd.prog.info? 98).map (·.size) = some (Z.map bv).length) := by show _ = _; rw [List.length_map, hZ]; exact size_b32
        go_wp2_with (refine wpList_blk_store rfl 98 _ _ rfl 0 (.agg (Z.map bv).toArray) rfl rfl hR11.out (by simpa [Value.cells] using hsz.out) (by rw [hz32]; simpa [Value.cells] using Nat.le_of_eq hZ) (bytes_cells _) ?_; intro w12 hR12 ho12)
        have hall : splice (bz 32) 0 (Value.agg (Z.map bv).toArray).cells.toList = Z.map bv := by
          rw [splice_all _ _ (by rw [hz32]; simpa [Value.cells] using hZ)]
          rfl
        refine bodyPost_ret (ret_blk rfl _ w12 (g := w.heap.size + 1) rfl (hR12.out) (.array 32 5) Tryd.underlying98 rfl ?_) rfl ⟨?_, hbz.trans (ho12.below (by omega))⟩
        · rw [hall]; exact hsz.out
        · rw [hall, hZe'.out]
end Go.Proofs.YtlgokfgiemaklaaDoor

namespace Go.Proofs.YtlgokfgiemaklaaDoor
set_option linter.unusedVariables false
open Go.RowKit

/-- A stream's value. -/
def SVal (m : List UInt8) (v : Value) : Prop := ∃ s b, Sha.Holds m s b ∧ v = .agg (scells s b m.length).toArray
theorem SVal.cells {m : List UInt8} {v : Value} (h : SVal m v) : ∃ L : List Value, v = .agg L.toArray ∧ L.length = 73 ∧ ∀ u ∈ L, u.oneCell' = true := by
  obtain ⟨s, b, hh, rfl⟩ := h
  exact ⟨_, rfl, scells_len hh.len hh.2.1, stream_one s b m.length⟩
theorem begin_v (w : World) : Calls Tryd.prog 63 #[] w fun e w' => ∃ v, (e = .returned v ∧ SVal [] v) ∧ Below w.heap.size w w' :=
  (begin_any w).mono fun e w' h => ⟨_, ⟨h.1, _, _, Sha.Holds.begin, rfl⟩, h.2⟩
theorem add_v (m t : List UInt8) (v : Value) (w : World) (h : SVal m v) (hlen : m.length + t.length ≤ 1000000000) (ht : Tab 2 w) :
    Calls Tryd.prog 64 #[v, sv t] w fun e w' => ∃ v', (e = .returned v' ∧ SVal (m ++ t) v') ∧ Below w.heap.size w w' := by
  obtain ⟨s, b, hh, rfl⟩ := h
  exact (add_any m t s b w hh hlen ht).mono fun e w' h => by
    obtain ⟨⟨s', b', h1, h2⟩, h3⟩ := h
    exact ⟨_, ⟨h2, s', b', h1, rfl⟩, h3⟩
theorem sum_v (m : List UInt8) (v : Value) (w : World) (h : SVal m v) (hlen : m.length ≤ 1000000000) (ht : Tab 2 w) :
    Calls Tryd.prog 65 #[v] w fun e w' => e = .returned (av (Sha.sum m)) ∧ Below w.heap.size w w' := by
  obtain ⟨s, b, hh, rfl⟩ := h
  exact streamSum_any m s b w hh hlen ht

end Go.Proofs.YtlgokfgiemaklaaDoor
