/-
  Bytes as strings; rows of bytes that a call made itself; how calls end. (General: no function of the project.)
-/
import Derived.Test.YtgajlgnniidgmaaDoorRows
import Derived.Test.YtgajlgnniidgmaaDoorMem
import Derived.Deep.LoopGhost
import Derived.Lib.AppendStr
namespace Go.Proofs.YtgajlgnniidgmaaDoor
open Go.RowKit

theorem tuple3 {a b c a' b' c' : Value} (h1 : a = a') (h2 : b = b') (h3 : c = c') : Ending.returned (.tuple #[a, b, c]) = .returned (.tuple #[a', b', c']) := by rw [h1, h2, h3]
theorem infoByte : (Tryd.prog.info? 5).map (fun i => (i.zero, i.size, i.bytes)) = some (some (.int .u8 0), 1, 1) := by kernel_rfl
/-- The bytes l are a row of the call's own, from block 'base' on. -/
def OwnB (w : World) (base : Nat) (v : Value) (l : List UInt8) : Prop := w.ownsRow base 5 1 v l.length (l.map bv)
theorem ownB_nil (w : World) (base : Nat) : OwnB w base (.slice none 0 0) [] := World.ownsRow_nil w base _ _
/-- 'b = append(b, x)', x a byte, b the call's own: the walk's step. -/
theorem push_byte {w0 : World} {ops : Array Oper} {rest : List Oper} {o : Oper} {a : Act} {Q : Exit → Act → World → Prop} (hgd : o.guard = none) (s x : Operand)
    (ho : o.op = .call { callee := .builtin .append, args := #[s, x], argTypes := #[52, 52] })
    (base : Nat) (v : Value) (l : List UInt8) (b : UInt8) (u : Value) (hu : u = bv b) (hs : a.eval s = v) (hx : a.eval x = .slice (some ⟨w0.heap.size, 0, none⟩) 1 1)
    (hown : OwnB w0 base v l) (hlen : l.length ≤ 140737488355300) (hbase : base ≤ w0.heap.size)
    (h : ∀ v' w', OwnB w' base v' (l ++ [b]) → Onto w0 v w' v' → wpList Tryd.prog ops Q rest (a.put o.dst v') w') :
    wpList Tryd.prog ops Q (o :: rest) a (w0.alloc (.cells #[u] 5)) := by
  subst hu
  obtain ⟨i0, hi, hz0, hz1, hz2⟩ := info_parts infoByte
  refine wpList_push hgd s x 52 ho base 5 i0 (.int .u8 0) 1 Tryd.underlying52 hi hz0 hz1 hz2 rfl v l.length (l.map bv) (bv b) hs hx rfl hown (by omega) (by unfold maxLen; omega) hbase ?_
  intro v' w' h1 h2
  exact h v' w' (by unfold OwnB; simpa using h1) h2
/-- What appending to v leaves: v' reads as l. -/
def AppEnd (base : Nat) (v : Value) (l : List UInt8) (w : World) (e : Ending) (w' : World) : Prop :=
  ∃ v', e = .returned v' ∧ OwnB w' base v' l ∧ Onto w v w' v'
/-- What Int returns: a row of its own. -/
def NewEnd (l : List UInt8) (w : World) (e : Ending) (w' : World) : Prop :=
  ∃ v', e = .returned v' ∧ OwnB w' w.heap.size v' l ∧ Below w.heap.size w w'
theorem AppEnd.new {l : List UInt8} {w : World} {e : Ending} {w' : World} (h : AppEnd w.heap.size (.slice none 0 0) l w e w') : NewEnd l w e w' := by
  obtain ⟨v', h1, h2, h3⟩ := h
  exact ⟨v', h1, h2, h3.below (ownB_nil w _) (Nat.le_refl _)⟩
/-- The string of some bytes. -/
def bs (l : List UInt8) : ByteArray := ⟨l.toArray⟩
theorem bs_toList (l : List UInt8) : (bs l).toList = l := by unfold bs; simp
theorem bs_size (l : List UInt8) : (bs l).size = l.length := by unfold bs; simp [ByteArray.size]
theorem foldl_bs (l m : List UInt8) : (l.map fun b => ((b.toNat : Nat) : Int)).foldl (fun r n => r.push (UInt8.ofNat n.toNat)) (bs m) = bs (m ++ l) := by
  induction l generalizing m with
  | nil => simp
  | cons b l ih =>
    rw [List.map_cons, List.foldl_cons]
    have : (bs m).push (UInt8.ofNat ((b.toNat : Nat) : Int).toNat) = bs (m ++ [b]) := by
      unfold bs ByteArray.push
      simp
    rw [this, ih, List.append_assoc]; rfl
theorem run_bytes_bs {P : Program} (w : World) (src dst e : TypeId) (hs : P.underlying src = some (.slice e)) (he : P.underlying e = some (.int .u8)) (hd : P.underlying dst = some .string)
    {B : Nat} {A : Option Addr} {l : List UInt8} (c : Nat) (hr : Rds w B A (l.map bv)) : (convert src dst (.slice A l.length c)).run P w = .ok (.string (bs l)) w := by
  rw [run_convert_bytes_string w src dst e A l.length c hs he hd]
  cases A with
  | none =>
    have : l = [] := by
      by_cases h : l = []
      · exact h
      · obtain ⟨ad, h, _⟩ := hr (by simpa using h)
        cases h
    subst this
    rfl
  | some a =>
    have hc : (loadCells a l.length).run P w = .ok ((l.map fun b => ((b.toNat : Nat) : Int)).map (Value.int .u8)).toArray w := by
      have h := run_loadCells_list (P := P) w a (l.map bv) (by
        intro j v hv
        obtain ⟨ad, h, _, hcell⟩ := hr.look hv
        injection h with h
        subst h
        exact hcell)
      rw [List.length_map] at h
      rw [h]
      congr 2
      simp [bv]
    rw [run_bytesToString w a l.length c _ hc]
    congr 2
    exact foldl_bs l []
/-- An integer, a string as a value. -/
def iv (n : Int) : Value := .int .i64 n
def sv (l : List UInt8) : Value := .string (bs l)
theorem strCells_bs (l : List UInt8) : Lib.strCells (bs l) = l.map bv := rfl
/-- What appending to a row of one's own leaves, said from 'base' on alone. -/
def MoreEnd (base : Nat) (l : List UInt8) (w : World) (e : Ending) (w' : World) : Prop :=
  ∃ v', e = .returned v' ∧ OwnB w' base v' l ∧ Below base w w'
theorem AppEnd.more {base : Nat} {v : Value} {m l : List UInt8} {w : World} {e : Ending} {w' : World} (h : AppEnd base v l w e w') (hv : OwnB w base v m) (hb : base ≤ w.heap.size) : MoreEnd base l w e w' := by
  obtain ⟨v', h1, h2, h3⟩ := h
  exact ⟨v', h1, h2, h3.below hv hb⟩
/-- 'b = append(b, s...)', s a string, b the call's own. -/
theorem push_str {w : World} {ops : Array Oper} {rest : List Oper} {o : Oper} {a : Act} {Q : Exit → Act → World → Prop} (hgd : o.guard = none) (sl x : Operand)
    (ho : o.op = .call { callee := .builtin .append, args := #[sl, x], argTypes := #[52, 9] })
    (base : Nat) (v : Value) (m l : List UInt8) (S : ByteArray) (hS : S = bs l) (hs : a.eval sl = v) (hx : a.eval x = .string S)
    (hown : OwnB w base v m) (hlen : m.length + l.length ≤ 140737488355328) (hbase : base ≤ w.heap.size)
    (h : ∀ v' w', OwnB w' base v' (m ++ l) → Below base w w' → wpList Tryd.prog ops Q rest (a.put o.dst v') w') :
    wpList Tryd.prog ops Q (o :: rest) a w := by
  subst hS
  obtain ⟨i0, hi, hz0, hz1, hz2⟩ := info_parts infoByte
  have hz := bs_size l
  refine Lib.wpList_append_own_string w hgd sl x 52 9 ho base 5 i0 Tryd.underlying52 Tryd.underlying9 hi hz0 hz1 hz2 v m.length (m.map bv) hs hown (bs l) hx (by unfold maxLen; omega) (by omega) hbase ?_
  intro v' w' h1 h2 _
  refine h v' w' ?_ ((Below.refl _ _).grown h2 hbase fun _ hk => (hown.lt _ hk).1)
  unfold OwnB
  rw [List.length_append, List.map_append, ← strCells_bs, ← hz]
  exact h1
set_option maxRecDepth 100000 in
/-- 'b = append(b, c...)', c some bytes, b the call's own. -/
theorem push_bytes {w : World} {ops : Array Oper} {rest : List Oper} {o : Oper} {a : Act} {Q : Exit → Act → World → Prop} (hgd : o.guard = none) (sl x : Operand)
    (ho : o.op = .call { callee := .builtin .append, args := #[sl, x], argTypes := #[52, 52] })
    (base : Nat) (v : Value) (m l : List UInt8) (B : Nat) (A : Option Addr) (n c : Nat) (hn : n = l.length) (hA : A = none → c = 0) (hs : a.eval sl = v) (hx : a.eval x = .slice A n c)
    (hr : Rds w B A (l.map bv)) (hown : OwnB w base v m) (hlen : m.length + l.length ≤ 140737488355328) (hbase : base ≤ w.heap.size)
    (h : ∀ v' w', OwnB w' base v' (m ++ l) → Below base w w' → wpList Tryd.prog ops Q rest (a.put o.dst v') w') :
    wpList Tryd.prog ops Q (o :: rest) a w := by
  subst hn
  obtain ⟨i0, hi, hz0, hz1, hz2⟩ := info_parts infoByte
  cases A with
  | none =>
    have hl : l = [] := by
      by_cases hl : l = []
      · exact hl
      · obtain ⟨ad, hh, _⟩ := hr (by simpa using hl)
        cases hh
    subst hl
    rw [hA rfl] at hx
    refine wpList_plain hgd fun K hK => ?_
    have hrun := run_append_owned_none (P := Tryd.prog) w base 52 o.type 5 i0 1 Tryd.underlying52 hi v m.length (m.map bv) hown
    unfold Oper.wp execOp
    simp only [ho, resolve, invoke, builtin, Sem.run_bind, Sem.run_pure, Result.andThen_ok, List.map_toArray, List.map_cons, List.map_nil, hs, hx, List.length_nil, hrun]
    exact hK _ _ (h v w (by simpa using hown) (Below.refl _ _))
  | some ad =>
    have hcell : ∀ j u, (l.map bv)[j]? = some u → w.cell? (ad.add j) = some u := by
      intro j u hu
      obtain ⟨ad', he, _, hc⟩ := hr.look hu
      injection he with he
      subst he
      exact hc
    refine wpList_append_own_at w hgd sl x 52 ho base 5 i0 (.int .u8 0) 1 1 Tryd.underlying52 hi hz0 hz1 hz2 rfl (by decide) v m.length (m.map bv) hs hown ad l.length c (l.map bv) hx (by simp) hcell
      (by intro u hu; obtain ⟨b, _, rfl⟩ := List.mem_map.1 hu; rfl) (by unfold maxLen; omega) (by omega) hbase ?_
    intro v' w' h2 h3 _ _
    refine h v' w' ?_ ((Below.refl _ _).grown h3 hbase fun _ hk => (hown.lt _ hk).1)
    unfold OwnB
    rw [List.length_append, List.map_append]
    exact h2
theorem NewEnd.slice {l : List UInt8} {w : World} {e : Ending} {w' : World} (h : NewEnd l w e w') : ∃ A c, e = .returned (.slice A l.length c) ∧ l.length ≤ c ∧ c ≤ maxLen ∧ (A = none → c = 0) ∧ Rds w' w'.heap.size A (l.map bv) ∧ Below w.heap.size w w' := by
  obtain ⟨v', rfl, h2, h3⟩ := h
  obtain ⟨A, c, rfl, g1, g2, g3, g4⟩ := own_form h2
  exact ⟨A, c, rfl, g1, g2, g3, g4, h3⟩
theorem below_lit {w0 w' : World} {o : Obj} (h : Below (w0.alloc o).heap.size (w0.alloc o) w') : Below w0.heap.size w0 w' :=
  ((Below.refl _ _).alloc (Nat.le_refl _) o).trans (h.mono (by simp))
/-- A call that ends in a bool and leaves all that was there. -/
def OkEnd (b : Bool) (w : World) (e : Ending) (w' : World) : Prop := e = .returned (.bool b) ∧ Below w.heap.size w w'
/-- It returns a bool, and has drawn some orders at most. -/
def BoolEnd (b : Bool) (w : World) (e : Ending) (w' : World) : Prop := e = .returned (.bool b) ∧ ∃ n, w' = w.drewN n
theorem drewN_zero (w : World) : w.drewN 0 = w := rfl
theorem below_drewN {B : Nat} {a w : World} (h : Below B a w) (n : Nat) : Below B a (w.drewN n) := ⟨h.os, h.tape, h.output, h.size, h.block⟩
theorem BoolEnd.below {b : Bool} {w : World} {e : Ending} {w' : World} (h : BoolEnd b w e w') : e = .returned (.bool b) ∧ Below w.heap.size w w' := by
  obtain ⟨h1, n, rfl⟩ := h
  exact ⟨h1, below_drewN (Below.refl _ _) n⟩
theorem bs_of (s : ByteArray) : bs s.data.toList = s := by unfold bs; simp
theorem sv_of (s : ByteArray) : Value.string s = sv s.data.toList := by unfold sv; rw [bs_of]
theorem size_of (s : ByteArray) : s.data.toList.length = s.size := by rw [Array.length_toList]; rfl
end Go.Proofs.YtgajlgnniidgmaaDoor
