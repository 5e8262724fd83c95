/-
  Contracts: bytes as strings, Same, length, appendBytes, GetBytes.
-/
import Derived.Test.YthnbiegpfjnadaaGet
import Derived.Lib.AppendStr
namespace Go.Proofs.Ythnbiegpfjnadaa
open Go.RowKit

/-- The string of some bytes. -/
def bs (l : List UInt8) : ByteArray := ⟨l.toArray⟩
theorem bs_toList (l : List UInt8) : (bs l).toList = l := by unfold bs; simp
theorem bs_size (l : List UInt8) : (bs l).size = l.length := by unfold bs; simp [ByteArray.size]
theorem foldl_bs (l m : List UInt8) : (l.map fun b => ((b.toNat : Nat) : Int)).foldl (fun r n => r.push (UInt8.ofNat n.toNat)) (bs m) = bs (m ++ l) := by
  induction l generalizing m with
  | nil => simp
  | cons b l ih =>
    rw [List.map_cons, List.foldl_cons]
    have : (bs m).push (UInt8.ofNat ((b.toNat : Nat) : Int).toNat) = bs (m ++ [b]) := by
      unfold bs ByteArray.push
      simp
    rw [this, ih, List.append_assoc]; rfl
theorem run_bytes_bs {P : Program} (w : World) (src dst e : TypeId) (hs : P.underlying src = some (.slice e)) (he : P.underlying e = some (.int .u8)) (hd : P.underlying dst = some .string)
    {B : Nat} {A : Option Addr} {l : List UInt8} (c : Nat) (hr : Rds w B A (l.map bv)) : (convert src dst (.slice A l.length c)).run P w = .ok (.string (bs l)) w := by
  rw [run_convert_bytes_string w src dst e A l.length c hs he hd]
  cases A with
  | none =>
    have : l = [] := by
      by_cases h : l = []
      · exact h
      · obtain ⟨ad, h, _⟩ := hr (by simpa using h)
        cases h
    subst this
    rfl
  | some a =>
    have hc : (loadCells a l.length).run P w = .ok ((l.map fun b => ((b.toNat : Nat) : Int)).map (Value.int .u8)).toArray w := by
      have h := run_loadCells_list (P := P) w a (l.map bv) (by
        intro j v hv
        obtain ⟨ad, h, _, hcell⟩ := hr.look hv
        injection h with h
        subst h
        exact hcell)
      rw [List.length_map] at h
      rw [h]
      congr 2
      simp [bv]
    rw [run_bytesToString w a l.length c _ hc]
    congr 2
    exact foldl_bs l []

set_option maxHeartbeats 400000 in
theorem same_any {B B' : Nat} (la lb : List UInt8) (A A' : Option Addr) (c c' : Nat) (w : World) (ha : Rds w B A (la.map bv)) (hb : Rds w B' A' (lb.map bv)) :
    Calls Try.prog 13 #[.slice A la.length c, .slice A' lb.length c'] w fun e w' => e = .returned (.bool (la == lb)) ∧ w = w' := by
  have k1 := run_bytes_bs (P := Try.prog) w 28 9 5 Try.underlying28 Try.underlying5 Try.underlying9 c ha
  have k2 := run_bytes_bs (P := Try.prog) w 28 9 5 Try.underlying28 Try.underlying5 Try.underlying9 c' hb
  have e1 := bs_toList la
  have e2 := bs_toList lb
  go_enter Try.func13, Try.ntmps13
  go_wp2
  go_ret
  exact ⟨rfl, rfl⟩

/-- What 'length' returns. -/
def LenEnd (l : List UInt8) (u : Nat) (w : World) (e : Ending) (w' : World) : Prop :=
  e = .returned (.tuple #[.int .i64 (Wm.getLen l u).1, .int .i64 ((Wm.getLen l u).2.1 : Int), .int .i64 (Wm.getLen l u).2.2]) ∧ w = w'
theorem lenEnd {l : List UInt8} {un : Nat} {w : World} {n : Int} {u : Nat} {x : Int} {a b c : Value} (h : Wm.getLen l un = (n, u, x)) (ha : a = .int .i64 n) (hb : b = .int .i64 u) (hc : c = .int .i64 x) : LenEnd l un w (.returned (.tuple #[a, b, c])) w := by
  subst ha; subst hb; subst hc
  unfold LenEnd
  rw [h]
  exact ⟨rfl, rfl⟩

set_option maxRecDepth 100000 in
set_option maxHeartbeats 400000 in
theorem length_any (l : List UInt8) (un : Nat) (hu : 0 < un) (hu2 : un < 1000) (A : Option Addr) (c : Nat) (w : World) (hr : Rds w w.heap.size A (l.map bv)) (hl : l.length ≤ maxLen) :
    Calls Try.prog 46 #[.slice A l.length c, .int .i64 un] w (LenEnd l un w) := by
  have H := Lib.hid (getInt_any l A c w hr hl)
  have hus := (Wm.getInt_used l).1
  unfold maxLen at hl
  rcases hg : Wm.getInt l with ⟨n, u, x⟩
  rw [hg] at hus
  have D := Lib.hid hg
  have hfit : Wm.Fits n := by have := Wm.getInt_fits l; rwa [hg] at this
  obtain ⟨hf1, hf2⟩ := hfit
  have R : Hid (Wm.getLen l un = if x ≠ 0 then (0, 0, x) else if n < 0 then (0, 0, 11) else if (((l.length - u) / un : Nat) : Int) < n then (0, 0, 10) else (n, u, 0)) := by
    show _ = _
    unfold Wm.getLen; rw [hg]
  clear hg
  simp only at hus
  by_cases hx : x = 0
  · have t : (x != 0) = false := by simp; omega
    by_cases hn : n < 0
    · have R' : Hid (Wm.getLen l un = (0, 0, 11)) := by show _ = _; rw [R.out, if_neg (by omega), if_pos hn]
      clear R hx
      go_enter Try.func46, Try.ntmps46
      go_wp2_with fail
      refine H.out.mono ?_
      rintro e w' ⟨rfl, rfl⟩
      rw [D.out]
      go_wp2
      go_ret3
      exact lenEnd R'.out rfl rfl rfl
    · have hq : Hid (((l.length : Int) - u) / un = (((l.length - u) / un : Nat) : Int)) := by
        show _ = _
        rw [show ((l.length : Int) - u) = ((l.length - u : Nat) : Int) from by omega]; rfl
      by_cases hgt : (((l.length - u) / un : Nat) : Int) < n
      · have R' : Hid (Wm.getLen l un = (0, 0, 10)) := by show _ = _; rw [R.out, if_neg (by omega), if_neg hn, if_pos hgt]
        have t2 : ((l.length : Int) - u) / un < n := by rw [hq.out]; exact hgt
        clear R hx hgt
        go_enter Try.func46, Try.ntmps46
        go_wp2_with fail
        refine H.out.mono ?_
        rintro e w' ⟨rfl, rfl⟩
        rw [D.out]
        go_wp2
        go_ret3
        exact lenEnd R'.out rfl rfl rfl
      · have R' : Hid (Wm.getLen l un = (n, u, 0)) := by show _ = _; rw [R.out, if_neg (by omega), if_neg hn, if_neg hgt]
        have t2 : ¬ ((l.length : Int) - u) / un < n := by rw [hq.out]; exact hgt
        clear R hx hgt
        go_enter Try.func46, Try.ntmps46
        go_wp2_with fail
        refine H.out.mono ?_
        rintro e w' ⟨rfl, rfl⟩
        rw [D.out]
        go_wp2
        go_ret3
        exact lenEnd R'.out rfl rfl rfl
  · have t : (x != 0) = true := by simp; omega
    have R' : Hid (Wm.getLen l un = (0, 0, x)) := by show _ = _; rw [R.out, if_pos hx]
    clear R hx
    go_enter Try.func46, Try.ntmps46
    go_wp2_with fail
    refine H.out.mono ?_
    rintro e w' ⟨rfl, rfl⟩
    rw [D.out]
    go_wp2
    go_ret3
    exact lenEnd R'.out rfl rfl rfl
end Go.Proofs.Ythnbiegpfjnadaa
