/-
  Bytes as strings; rows of bytes that a call made itself; how calls end. (General: no function of the project.)
-/
import Derived.Test.YtbkgbjimooobbaaRows
import Derived.Test.YtbkgbjimooobbaaMem
import Derived.Deep.LoopGhost
import Derived.Lib.AppendStr
namespace Go.Proofs.Ytbkgbjimooobbaa
open Go.RowKit

theorem tuple3 {a b c a' b' c' : Value} (h1 : a = a') (h2 : b = b') (h3 : c = c') : Ending.returned (.tuple #[a, b, c]) = .returned (.tuple #[a', b', c']) := by rw [h1, h2, h3]
theorem infoByte : (Try.prog.info? 5).map (fun i => (i.zero, i.size, i.bytes)) = some (some (.int .u8 0), 1, 1) := by kernel_rfl
/-- The bytes l are a row of the call's own, from block 'base' on. -/
def OwnB (w : World) (base : Nat) (v : Value) (l : List UInt8) : Prop := w.ownsRow base 5 1 v l.length (l.map bv)
theorem ownB_nil (w : World) (base : Nat) : OwnB w base (.slice none 0 0) [] := World.ownsRow_nil w base _ _
/-- What appending to v leaves: v' reads as l. -/
def AppEnd (base : Nat) (v : Value) (l : List UInt8) (w : World) (e : Ending) (w' : World) : Prop :=
  ∃ v', e = .returned v' ∧ OwnB w' base v' l ∧ Onto w v w' v'
/-- What Int returns: a row of its own. -/
def NewEnd (l : List UInt8) (w : World) (e : Ending) (w' : World) : Prop :=
  ∃ v', e = .returned v' ∧ OwnB w' w.heap.size v' l ∧ Below w.heap.size w w'
theorem AppEnd.new {l : List UInt8} {w : World} {e : Ending} {w' : World} (h : AppEnd w.heap.size (.slice none 0 0) l w e w') : NewEnd l w e w' := by
  obtain ⟨v', h1, h2, h3⟩ := h
  exact ⟨v', h1, h2, h3.below (ownB_nil w _) (Nat.le_refl _)⟩
/-- The string of some bytes. -/
def bs (l : List UInt8) : ByteArray := ⟨l.toArray⟩
theorem bs_toList (l : List UInt8) : (bs l).toList = l := by unfold bs; simp
theorem bs_size (l : List UInt8) : (bs l).size = l.length := by unfold bs; simp [ByteArray.size]
theorem foldl_bs (l m : List UInt8) : (l.map fun b => ((b.toNat : Nat) : Int)).foldl (fun r n => r.push (UInt8.ofNat n.toNat)) (bs m) = bs (m ++ l) := by
  induction l generalizing m with
  | nil => simp
  | cons b l ih =>
    rw [List.map_cons, List.foldl_cons]
    have : (bs m).push (UInt8.ofNat ((b.toNat : Nat) : Int).toNat) = bs (m ++ [b]) := by
      unfold bs ByteArray.push
      simp
    rw [this, ih, List.append_assoc]; rfl
theorem run_bytes_bs {P : Program} (w : World) (src dst e : TypeId) (hs : P.underlying src = some (.slice e)) (he : P.underlying e = some (.int .u8)) (hd : P.underlying dst = some .string)
    {B : Nat} {A : Option Addr} {l : List UInt8} (c : Nat) (hr : Rds w B A (l.map bv)) : (convert src dst (.slice A l.length c)).run P w = .ok (.string (bs l)) w := by
  rw [run_convert_bytes_string w src dst e A l.length c hs he hd]
  cases A with
  | none =>
    have : l = [] := by
      by_cases h : l = []
      · exact h
      · obtain ⟨ad, h, _⟩ := hr (by simpa using h)
        cases h
    subst this
    rfl
  | some a =>
    have hc : (loadCells a l.length).run P w = .ok ((l.map fun b => ((b.toNat : Nat) : Int)).map (Value.int .u8)).toArray w := by
      have h := run_loadCells_list (P := P) w a (l.map bv) (by
        intro j v hv
        obtain ⟨ad, h, _, hcell⟩ := hr.look hv
        injection h with h
        subst h
        exact hcell)
      rw [List.length_map] at h
      rw [h]
      congr 2
      simp [bv]
    rw [run_bytesToString w a l.length c _ hc]
    congr 2
    exact foldl_bs l []
/-- An integer, a string as a value. -/
def iv (n : Int) : Value := .int .i64 n
def sv (l : List UInt8) : Value := .string (bs l)
theorem strCells_bs (l : List UInt8) : Lib.strCells (bs l) = l.map bv := rfl
/-- What appending to a row of one's own leaves, said from 'base' on alone. -/
def MoreEnd (base : Nat) (l : List UInt8) (w : World) (e : Ending) (w' : World) : Prop :=
  ∃ v', e = .returned v' ∧ OwnB w' base v' l ∧ Below base w w'
theorem AppEnd.more {base : Nat} {v : Value} {m l : List UInt8} {w : World} {e : Ending} {w' : World} (h : AppEnd base v l w e w') (hv : OwnB w base v m) (hb : base ≤ w.heap.size) : MoreEnd base l w e w' := by
  obtain ⟨v', h1, h2, h3⟩ := h
  exact ⟨v', h1, h2, h3.below hv hb⟩
theorem NewEnd.slice {l : List UInt8} {w : World} {e : Ending} {w' : World} (h : NewEnd l w e w') : ∃ A c, e = .returned (.slice A l.length c) ∧ l.length ≤ c ∧ c ≤ maxLen ∧ (A = none → c = 0) ∧ Rds w' w'.heap.size A (l.map bv) ∧ Below w.heap.size w w' := by
  obtain ⟨v', rfl, h2, h3⟩ := h
  obtain ⟨A, c, rfl, g1, g2, g3, g4⟩ := own_form h2
  exact ⟨A, c, rfl, g1, g2, g3, g4, h3⟩
theorem below_lit {w0 w' : World} {o : Obj} (h : Below (w0.alloc o).heap.size (w0.alloc o) w') : Below w0.heap.size w0 w' :=
  ((Below.refl _ _).alloc (Nat.le_refl _) o).trans (h.mono (by simp))
/-- A call that ends in a bool and leaves all that was there. -/
def OkEnd (b : Bool) (w : World) (e : Ending) (w' : World) : Prop := e = .returned (.bool b) ∧ Below w.heap.size w w'
/-- It returns a bool, and has drawn some orders at most. -/
def BoolEnd (b : Bool) (w : World) (e : Ending) (w' : World) : Prop := e = .returned (.bool b) ∧ ∃ n, w' = w.drewN n
theorem drewN_zero (w : World) : w.drewN 0 = w := rfl
theorem below_drewN {B : Nat} {a w : World} (h : Below B a w) (n : Nat) : Below B a (w.drewN n) := ⟨h.os, h.tape, h.output, h.size, h.block⟩
theorem BoolEnd.below {b : Bool} {w : World} {e : Ending} {w' : World} (h : BoolEnd b w e w') : e = .returned (.bool b) ∧ Below w.heap.size w w' := by
  obtain ⟨h1, n, rfl⟩ := h
  exact ⟨h1, below_drewN (Below.refl _ _) n⟩
theorem bs_of (s : ByteArray) : bs s.data.toList = s := by unfold bs; simp
theorem sv_of (s : ByteArray) : Value.string s = sv s.data.toList := by unfold sv; rw [bs_of]
theorem size_of (s : ByteArray) : s.data.toList.length = s.size := by rw [Array.length_toList]; rfl
end Go.Proofs.Ytbkgbjimooobbaa
