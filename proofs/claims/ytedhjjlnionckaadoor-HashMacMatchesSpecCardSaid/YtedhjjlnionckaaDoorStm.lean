/-
  Contracts of stage 2: streams.
-/
import Derived.Test.YtedhjjlnionckaaDoorByt
import Derived.Test.YtedhjjlnionckaaDoorWb
import Derived.Test.YtedhjjlnionckaaDoorBlk2
namespace Go.Proofs.YtedhjjlnionckaaDoor
set_option linter.unusedVariables false
open Go.RowKit

/-- The cells of a stream. -/
def scells (s : List Nat) (b : List UInt8) (n : Nat) : List Value := s.map uv ++ b.map bv ++ [.int .u64 n]
section
variable {s : List Nat} {b : List UInt8} {n : Nat}
theorem scells_len (hs : s.length = 8) (hb : b.length = 64) : (scells s b n).length = 73 := by simp [scells, hs, hb]
theorem scells_state (hs : s.length = 8) : ((scells s b n).drop 0).take (s.map uv).length = s.map uv := by
  unfold scells
  rw [List.drop_zero, List.append_assoc, List.take_left' rfl]
theorem scells_block (hs : s.length = 8) : ((scells s b n).drop 8).take (b.map bv).length = b.map bv := by
  unfold scells
  rw [List.append_assoc, List.drop_left' (by rw [List.length_map, hs]), List.take_left' rfl]
theorem scells_n (hs : s.length = 8) (hb : b.length = 64) : (scells s b n)[72]? = some (.int .u64 n) := by
  unfold scells
  rw [List.getElem?_append_right (by simp [hs, hb])]
  simp [hs, hb]
theorem scells_set_n (hs : s.length = 8) (hb : b.length = 64) (k : Nat) : splice (scells s b n) 72 [.int .u64 k] = scells s b k := by
  have h := splice_mid (s.map uv ++ b.map bv) [.int .u64 (n : Int)] [] 0 [.int .u64 (k : Int)] (by simp)
  rw [List.append_nil, List.append_nil, splice_all _ _ (by simp)] at h
  unfold scells
  rw [← h]
  congr 1
  simp [hs, hb]
theorem scells_set_state (hs : s.length = 8) (s' : List Nat) (hs' : s'.length = 8) : splice (scells s b n) 0 (s'.map uv) = scells s' b n := by
  have h := splice_mid [] (s.map uv) (b.map bv ++ [.int .u64 (n : Int)]) 0 (s'.map uv) (by simp [hs, hs'])
  rw [splice_all _ _ (by simp [hs, hs'])] at h
  unfold scells
  simpa using h
theorem scells_set_block (hs : s.length = 8) (p : Nat) (t : List UInt8) (h : p + t.length ≤ b.length) : splice (scells s b n) (8 + p) (t.map bv) = scells s (splice b p t) n := by
  have h := splice_mid (s.map uv) (b.map bv) [.int .u64 (n : Int)] p (t.map bv) (by simpa using h)
  rw [List.length_map, hs] at h
  unfold scells
  rw [h, splice_map]
end
theorem size_str : (Tryd.prog.info? 87).map (·.size) = some 73 := by kernel_rfl
theorem stream_one (s : List Nat) (b : List UInt8) (n : Nat) : ∀ u ∈ (Value.agg (scells s b n).toArray).cells.toList, u.oneCell' = true := by
  intro u hu
  have hu : u ∈ scells s b n := hu
  unfold scells at hu
  simp only [List.mem_append, List.mem_map, List.mem_singleton] at hu
  rcases hu with (⟨x, _, rfl⟩ | ⟨x, _, rfl⟩) | rfl <;> rfl

theorem zero_str : Tryd.zeroCells87 = (scells (List.replicate 8 0) (List.replicate 64 0) 0).toArray := by kernel_rfl
theorem zero_len : (scells (List.replicate 8 0) (List.replicate 64 0) 0).length = 73 := scells_len rfl rfl

set_option maxRecDepth 100000 in
theorem begin_any (w : World) : Calls Tryd.prog 52 #[] w fun e w' => e = .returned (.agg (scells Sha.start (List.replicate 64 0) 0).toArray) ∧ Below w.heap.size w w' := by
  have hl : (scells Sha.start (List.replicate 64 0) 0).length = 73 := scells_len rfl rfl
  have hsz : Hid ((Tryd.prog.info? 87).map (·.size) = some (Value.agg (scells Sha.start (List.replicate 64 0) 0).toArray).cells.size) := size_str
  go_enter Tryd.func52, Tryd.ntmps52
  go_wp2_with (refine wpList_blk_store rfl 87 _ _ rfl 0 (.agg (scells Sha.start (List.replicate 64 0) 0).toArray) rfl (by kernel_rfl) (Blk.new' w _ _) hsz.out (by rw [zero_str]; exact Nat.le_refl _) (stream_one _ _ _) ?_; intro w3 hR3 ho3)
  have hall : splice (Tryd.zeroCells87).toList 0 (Value.agg (scells Sha.start (List.replicate 64 0) 0).toArray).cells.toList = scells Sha.start (List.replicate 64 0) 0 := by
    rw [zero_str]
    exact splice_all _ _ rfl
  refine bodyPost_ret (ret_blk rfl _ w3 (g := w.heap.size) rfl (hR3.out) _ Tryd.underlying87 rfl ?_) rfl ⟨?_, ((Below.refl _ _).alloc (by simp) _).trans (ho3.below (by omega))⟩
  · rw [hall]; exact hsz.out
  · rw [hall]

theorem size_u64 : (Tryd.prog.info? 74).map (·.size) = some 1 := by kernel_rfl
theorem bs_toList' (l : List UInt8) : (bs l).data.toList = l := rfl
theorem bs_extract (l : List UInt8) (k : Nat) : (bs l).extract k (bs l).size = bs (l.drop k) := by
  unfold bs
  apply ByteArray.ext
  apply Array.ext'
  simp [ByteArray.size]
  exact List.take_of_length_le (by rw [List.length_drop]; omega)
def lenOf : Value → Nat
  | .string s => s.size
  | _ => 0

set_option maxRecDepth 100000 in
set_option maxHeartbeats 1000000 in
theorem add_any (m t : List UInt8) (s : List Nat) (b : List UInt8) (w : World) (hh : Sha.Holds m s b) (hlen : m.length + t.length ≤ 1000000000) (ht : Tab 1 w) :
    Calls Tryd.prog 53 #[.agg (scells s b m.length).toArray, sv t] w fun e w' => (∃ s' b', Sha.Holds (m ++ t) s' b' ∧ e = .returned (.agg (scells s' b' (m ++ t).length).toArray)) ∧ Below w.heap.size w w' := by
  have hT := Lib.hid ht
  have hz := Lib.hid zero_str
  unfold sv
  go_enter Tryd.func53, Tryd.ntmps53
  go_wp2_with fail
  go_loopw [1] (fun x wr => ∃ (q r : List UInt8) (s' : List Nat) (b' : List UInt8), q ++ r = m ++ t ∧ x = .string (bs r) ∧ Sha.Holds q s' b' ∧ Blk wr w.heap.size (scells s' b' q.length) 87 ∧ Blk wr (w.heap.size + 1) (scells (List.replicate 8 0) (List.replicate 64 0) 0) 87 ∧ Below w.heap.size w wr) (fun x _ => lenOf x)
  case atStart => exact ⟨m, t, s, b, rfl, rfl, hh, (Blk.new _ _ _).alloc _, (by rw [hz.out]; exact (Blk.new _ _ _).at (by simp)), ((Below.refl _ _).alloc (by simp) _).alloc (by simp) _⟩
  case round =>
    clear hh
    obtain ⟨q, r, s1, b1, hqr, rfl, hh, hB0, hR0, hbw⟩ := hrel
    have hB := Lib.hid hB0
    have hR := Lib.hid hR0
    have hS8 := hh.len
    have hb64 := hh.2.1
    have hql : q.length + r.length ≤ 1000000000 := by
      have := congrArg List.length hqr
      rw [List.length_append, List.length_append] at this
      omega
    have HS := Lib.hid (bs_size r)
    have hqr' := Lib.hid hqr
    have hh' := Lib.hid hh
    have hcell : wr.cell? ⟨w.heap.size, 72, none⟩ = some (.int .u64 (q.length : Int)) := hB0.cell (scells_n hS8 hb64)
    clear hB0 hR0 hqr hh
    by_cases hr0 : 0 < r.length
    · have t1 : 0 < (bs r).size := by rw [HS.out]; exact hr0
      obtain ⟨S, hS⟩ : ∃ S, bs r = S := ⟨_, rfl⟩
      rw [hS] at t1
      have hSS := Lib.hid hS
      have ad8 : (⟨w.heap.size, 8, none⟩ : Addr).add (q.length % 64) = ⟨w.heap.size, 8 + q.length % 64, none⟩ := Addr.add_mid _ _ _
      have pl : q.length % 64 < 64 := Nat.mod_lt _ (by decide)
      obtain ⟨k, hk⟩ : ∃ k, k = min S.size (64 - q.length % 64) := ⟨_, rfl⟩
      have hSr : S.data.toList = r := by rw [← hS]; exact bs_toList' r
      have hSz : S.size = r.length := by rw [← hS]; exact HS.out
      have hUl : (r.take k).length = k := by rw [List.length_take]; omega
      obtain ⟨n2, hn2⟩ : ∃ n2, n2 = (q ++ r.take k).length := ⟨_, rfl⟩
      have hn2' : n2 = q.length + k := by rw [hn2, List.length_append, hUl]
      obtain ⟨b2, hb2⟩ : ∃ b2, b2 = splice b1 (q.length % 64) (r.take k) := ⟨_, rfl⟩
      have hb2l : b2.length = 64 := by rw [hb2, length_splice _ _ _ (by omega)]; exact hb64
      have hSV : Hid (Value.slice (some ⟨w.heap.size, 8 + q.length % 64, none⟩) (64 - q.length % 64) (64 - q.length % 64) = .slice (some (if 64 = q.length % 64 then (⟨w.heap.size, 8, none⟩ : Addr) else (⟨w.heap.size, 8, none⟩ : Addr).add (q.length % 64))) (64 - q.length % 64) (64 - q.length % 64)) := by
        show _ = _
        rw [if_neg (by omega), ad8]
      have hfit : 8 + q.length % 64 + (64 - q.length % 64) ≤ (scells s1 b1 q.length).length := by rw [scells_len hS8 hb64]; omega
      have F1 : Hid (∀ W, Hid (Blk W w.heap.size (splice (scells s1 b1 q.length) (8 + q.length % 64) ((S.data.toList.take k).map bv)) 87) → Hid (Blk W w.heap.size (scells s1 b2 q.length) 87)) := fun W h => by
        have := h.out; rw [hSr, scells_set_block hS8 _ _ (by rw [hUl, hb64]; omega), ← hb2] at this; exact this
      have F2 : Hid (∀ W, Hid (Blk W w.heap.size (splice (scells s1 b2 q.length) 72 [.int .u64 (n2 : Int)]) 87) → Hid (Blk W w.heap.size (scells s1 b2 n2) 87)) := fun W h => by
        have := h.out; rw [scells_set_n hS8 hb2l] at this; exact this
      have C1 : Hid (∀ W, Hid (Blk W w.heap.size (scells s1 b2 q.length) 87) → W.cell? ⟨w.heap.size, 72, none⟩ = some (.int .u64 (q.length : Int))) := fun W h => h.out.cell (scells_n hS8 hb2l)
      have C2 : Hid (∀ W, Hid (Blk W w.heap.size (scells s1 b2 n2) 87) → W.cell? ⟨w.heap.size, 72, none⟩ = some (.int .u64 (n2 : Int))) := fun W h => h.out.cell (scells_n hS8 hb2l)
      have hex : S.extract k S.size = bs (r.drop k) := by rw [← hS]; exact bs_extract r k
      have hks : k ≤ S.size := by omega
      have ek : IntKind.u64.wrap (k : Int) = k := by rw [IntKind.wrap_u64]; omega
      have ea : IntKind.u64.wrap ((q.length : Int) + k) = n2 := by rw [IntKind.wrap_u64]; omega
      have hl2 : (scells s1 b2 q.length).length = 73 := scells_len hS8 hb2l
      have hk0 : 0 < k := by omega
      have hmeas : Hid ((bs (r.drop k)).size < S.size) := by show _ < _; rw [bs_size, List.length_drop]; omega
      have hqr2 : Hid ((q ++ r.take k) ++ r.drop k = m ++ t) := by show _ = _; rw [List.append_assoc, List.take_append_drop]; exact hqr'.out
      rw [hS]
      have pl' := Lib.hid pl
      have hk' := Lib.hid hk
      by_cases hw0 : n2 % 64 = 0
      · have hH : Hid (Sha.Holds (q ++ r.take k) (Sha.compress s1 b2) b2) := by show Sha.Holds _ _ _; rw [hb2]; exact hh'.out.whole (by rw [hUl]; omega)
        have t2 : (n2 : Int) % 64 = 0 := by omega
        have hn2h := Lib.hid hn2
        have hTw := Lib.hid (hT.out.on hbw)
        have HC := Lib.hid (fun W => compress_any s1 b2 W hS8 hh'.out.small hb2l)
        have hsz1 : Hid ((Tryd.prog.info? 84).map (·.size) = some (s1.map uv).length) := by show _ = _; rw [List.length_map, hS8]; exact size_w8
        have hsz2 : Hid ((Tryd.prog.info? 85).map (·.size) = some (b2.map bv).length) := by show _ = _; rw [List.length_map, hb2l]; exact size_b64
        have hsz3 : Hid ((Tryd.prog.info? 84).map (·.size) = some (Value.agg ((Sha.compress s1 b2).map uv).toArray).cells.size) := by show _ = some ((Sha.compress s1 b2).map uv).toArray.size; rw [List.size_toArray, List.length_map, Sha.compress_len _ _ hS8]; exact size_w8
        have hl3 : 0 + (Value.agg ((Sha.compress s1 b2).map uv).toArray).cells.size ≤ (scells s1 b2 n2).length := by
          show 0 + ((Sha.compress s1 b2).map uv).toArray.size ≤ _
          rw [List.size_toArray, List.length_map, Sha.compress_len _ _ hS8, scells_len hS8 hb2l]
          omega
        have hst := scells_state (s := s1) (b := b2) (n := n2) hS8
        have hbl := scells_block (s := s1) (b := b2) (n := n2) hS8
        have F3 : Hid (∀ W, Hid (Blk W w.heap.size (splice (scells s1 b2 n2) 0 (Value.agg ((Sha.compress s1 b2).map uv).toArray).cells.toList) 87) → Hid (Blk W w.heap.size (scells (Sha.compress s1 b2) b2 n2) 87)) := fun W h => by
          have := h.out
          rw [show (Value.agg ((Sha.compress s1 b2).map uv).toArray).cells.toList = (Sha.compress s1 b2).map uv from rfl, scells_set_state hS8 _ (Sha.compress_len _ _ hS8)] at this
          exact this
        have hst' := Lib.hid hst
        have hbl' := Lib.hid hbl
        clear hS pl hk ad8 hSr hSz hUl hn2 hn2' hb2 hh' hw0 hk0 hS8 hb64 hb2l hst hbl
        go_wp2_with (first | (refine wpList_slice_arr rfl 85 _ _ _ rfl ⟨w.heap.size, 8, none⟩ rfl 64 5 Tryd.underlying85 size_u8 (q.length % 64) 64 (.inr ⟨_, _, rfl, rfl⟩) (.inl ⟨rfl, rfl⟩) (Nat.le_of_lt pl'.out) (Nat.le_refl _) _ hSV.out ?_) | (refine wpList_blk_copy rfl _ _ _ _ rfl 5 Tryd.underlying22 size_u8 (g := w.heap.size) (8 + q.length % 64) (64 - q.length % 64) (64 - q.length % 64) S rfl rfl k hk'.out hB.out hfit ?_; intro w3 hW3' ho3; have hW3 := F1.out w3 hW3'; have c3 := C1.out w3 hW3; clear hW3') | (refine wpList_blk_store rfl 74 _ _ rfl 72 (.int .u64 (n2 : Int)) rfl rfl hW3.out size_u64 (by rw [hl2]; exact Nat.le_refl _) (one_int _ _) ?_; intro w4 hW4' ho4; have hW4 := F2.out w4 hW4'; have c4 := C2.out w4 hW4; clear hW4') | (refine wpList_blk_load rfl 84 _ rfl 0 rfl hW4.out (s1.map uv) hst'.out (.array 8 83) Tryd.underlying84 rfl hsz1.out ?_) | (refine wpList_blk_load rfl 85 _ rfl 8 rfl hW4.out (b2.map bv) hbl'.out (.array 64 5) Tryd.underlying85 rfl hsz2.out ?_))
        refine (HC.out _ ?_).mono ?_
        · exact (hTw.out.below ((ho3.trans ho4).below (B := w.heap.size) (by omega)) hT.out.1)
        rintro e w5 ⟨rfl, hb5⟩
        have hW5 := Lib.hid (hW4.out.below hb5 hW4.out.lt)
        have hb35 : Below w.heap.size w w5 := (hbw.trans ((ho3.trans ho4).below (by omega))).trans (hb5.mono (by have := hbw.size; have := ho3.size; have := ho4.size; omega))
        have hR5 := Lib.hid (((hR.out.only ho3 (by omega)).only ho4 (by omega)).below hb5 (by have := hR.out.lt; have := ho3.size; have := ho4.size; omega))
        clear hb5
        go_wp2_with (refine wpList_blk_store rfl 84 _ _ rfl 0 (.agg ((Sha.compress s1 b2).map uv).toArray) rfl rfl hW5.out hsz3.out hl3 (words_one _) ?_; intro w6 hW6' ho6; have hW6 := F3.out w6 hW6'; clear hW6')
        simp only [Act.put]
        go_roundw
        case rel => exact ⟨q ++ r.take k, r.drop k, Sha.compress s1 b2, b2, hqr2.out, rfl, hH.out, by rw [← hn2h.out]; exact hW6.out, hR5.out.only ho6 (by omega), hb35.trans (ho6.below (by omega))⟩
        case measure => exact hmeas.out
      · have hH : Hid (Sha.Holds (q ++ r.take k) s1 b2) := by show Sha.Holds _ _ _; rw [hb2]; exact hh'.out.part (by rw [hUl]; omega)
        have t2 : ¬ (n2 : Int) % 64 = 0 := by omega
        have hn2h := Lib.hid hn2
        clear hS pl hk ad8 hSr hSz hUl hn2 hn2' hb2 hh' hw0 hk0 hS8 hb64 hb2l
        go_wp2_with (first | (refine wpList_slice_arr rfl 85 _ _ _ rfl ⟨w.heap.size, 8, none⟩ rfl 64 5 Tryd.underlying85 size_u8 (q.length % 64) 64 (.inr ⟨_, _, rfl, rfl⟩) (.inl ⟨rfl, rfl⟩) (Nat.le_of_lt pl'.out) (Nat.le_refl _) _ hSV.out ?_) | (refine wpList_blk_copy rfl _ _ _ _ rfl 5 Tryd.underlying22 size_u8 (g := w.heap.size) (8 + q.length % 64) (64 - q.length % 64) (64 - q.length % 64) S rfl rfl k hk'.out hB.out hfit ?_; intro w3 hW3' ho3; have hW3 := F1.out w3 hW3'; have c3 := C1.out w3 hW3; clear hW3') | (refine wpList_blk_store rfl 74 _ _ rfl 72 (.int .u64 (n2 : Int)) rfl rfl hW3.out size_u64 (by rw [hl2]; exact Nat.le_refl _) (one_int _ _) ?_; intro w4 hW4' ho4; have hW4 := F2.out w4 hW4'; have c4 := C2.out w4 hW4; clear hW4'))
        go_roundw
        case rel => exact ⟨q ++ r.take k, r.drop k, s1, b2, hqr2.out, rfl, hH.out, by rw [← hn2h.out]; exact hW4.out, (hR.out.only ho3 (by omega)).only ho4 (by omega), hbw.trans ((ho3.trans ho4).below (by omega))⟩
        case measure => exact hmeas.out
    · have hr : r = [] := List.eq_nil_of_length_eq_zero (by omega)
      subst hr
      have hqe : q = m ++ t := by have := hqr'.out; simpa using this
      have t1 : ¬ (0 : Int) < (bs []).size := by rw [HS.out]; simp
      have t2 : (bs []).size = 0 := HS.out
      have hsz : Hid ((Tryd.prog.info? 87).map (·.size) = some (scells s1 b1 q.length).length) := by show _ = _; rw [scells_len hS8 hb64]; exact size_str
      have hsz2 : Hid ((Tryd.prog.info? 87).map (·.size) = some (Value.agg (scells s1 b1 q.length).toArray).cells.size) := hsz
      have hfit : 0 + (Value.agg (scells s1 b1 q.length).toArray).cells.size ≤ (scells (List.replicate 8 0) (List.replicate 64 0) 0).length := by
        rw [zero_len]; show 0 + (scells s1 b1 q.length).toArray.size ≤ 73; rw [List.size_toArray, scells_len hS8 hb64]; omega
      have hall : splice (scells (List.replicate 8 0) (List.replicate 64 0) 0) 0 (Value.agg (scells s1 b1 q.length).toArray).cells.toList = scells s1 b1 q.length := by
        show splice _ 0 (scells s1 b1 q.length) = _
        rw [splice_all _ _ (by rw [zero_len, scells_len hS8 hb64])]
      have hall' := Lib.hid hall
      generalize bs [] = S at t1 t2
      clear hall hqr' HS hr0 hcell
      go_wp2_with (first | (refine wpList_blk_load rfl 87 _ rfl 0 rfl hB.out (scells s1 b1 q.length) (take_all0 _) _ Tryd.underlying87 rfl hsz.out ?_) | (refine wpList_blk_store rfl 87 _ _ rfl 0 (.agg (scells s1 b1 q.length).toArray) rfl rfl hR.out hsz2.out hfit (stream_one _ _ _) ?_; intro w3 hR3 ho3))
      refine bodyPost_ret (ret_blk rfl _ w3 (g := w.heap.size + 1) rfl (hR3.out) _ Tryd.underlying87 rfl ?_) rfl ⟨⟨s1, b1, ?_, ?_⟩, hbw.trans (ho3.below (by omega))⟩
      · rw [hall'.out]; exact hsz.out
      · rw [← hqe]; exact hh'.out
      · rw [hall'.out, hqe, List.length_append]
end Go.Proofs.YtedhjjlnionckaaDoor
