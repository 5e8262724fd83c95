/-
  Stage 10 (domain): example.
-/
import Derived.Test.YtelcaddgkjkegaaDmu
namespace Go.Proofs.Ytelcaddgkjkegaa
set_option linter.unusedVariables false
set_option linter.unusedSimpArgs false
open Go.RowKit

/-- The domains of the document's example. -/
def exD : Dm := ⟨[0, 0, 1, 2], [(0, false), (0, false), (1, true)], [0, 1], 2⟩
theorem ex_fit : DmFit exD := ⟨by intro x hx; simp [exD] at hx; rcases hx with rfl | rfl | rfl <;> constructor <;> decide, by intro x hx; simp [exD] at hx; rcases hx with rfl | rfl <;> constructor <;> decide, by intro x hx; simp [exD] at hx; rcases hx with rfl | rfl <;> constructor <;> decide, ⟨by decide, by decide⟩, by simp [exD], by simp [exD], by simp [exD]⟩

set_option maxRecDepth 100000 in
set_option maxHeartbeats 4000000 in
theorem example_any (w : World) : Calls Try.prog 18 #[] w fun e w' => ∃ h : Hd, e = .returned h.val ∧ DomM w' w'.heap.size h exD ∧ Below w.heap.size w w' := by
  have hb0 : ∀ w, (Instr.build 42 #[]).run Try.prog w = .ok (.agg #[.int .i64 0, .bool false]) w := fun _ => by kernel_rfl
  have hdd := Lib.hid size_dom
  have hun : Hid (Try.prog.underlying 25 = _) := Try.underlying25
  go_enter Try.func18, Try.ntmps18
  go_wp2_with fail
  have b0 := Blk.new w [.slice (some ⟨w.heap.size + 1, 0, none⟩) 4 4, .slice (some ⟨w.heap.size + 1 + 1, 0, none⟩) 3 3, .slice (some ⟨w.heap.size + 1 + 1 + 1, 0, none⟩) 2 2, .int .i64 2] 25
  generalize hw1 : w.alloc _ = w1 at b0 ⊢
  have s1 : w1.heap.size = w.heap.size + 1 := by rw [← hw1]; simp
  have h1 : Below w.heap.size w w1 := by rw [← hw1]; exact (Below.refl _ _).alloc (Nat.le_refl _) _
  clear hw1
  have b1 := Blk.new w1 [.int .i64 0, .int .i64 0, .int .i64 1, .int .i64 2] 3
  have b0 := b0.alloc (.cells #[.int .i64 0, .int .i64 0, .int .i64 1, .int .i64 2] 3)
  generalize hw2 : w1.alloc _ = w2 at b0 b1 ⊢
  have s2 : w2.heap.size = w1.heap.size + 1 := by rw [← hw2]; simp
  have h2 : Below w.heap.size w w2 := by rw [← hw2]; exact h1.alloc (by omega) _
  clear hw2
  have b2 := Blk.new w2 [.int .i64 0, .bool false, .int .i64 0, .bool false, .int .i64 1, .bool true] 42
  have b0 := b0.alloc (.cells #[.int .i64 0, .bool false, .int .i64 0, .bool false, .int .i64 1, .bool true] 42)
  have b1 := b1.alloc (.cells #[.int .i64 0, .bool false, .int .i64 0, .bool false, .int .i64 1, .bool true] 42)
  generalize hw3 : w2.alloc _ = w3 at b0 b1 b2 ⊢
  have s3 : w3.heap.size = w2.heap.size + 1 := by rw [← hw3]; simp
  have h3 : Below w.heap.size w w3 := by rw [← hw3]; exact h2.alloc (by omega) _
  clear hw3
  have b3 := Blk.new w3 [.int .i64 0, .int .i64 1] 3
  have b0 := b0.alloc (.cells #[.int .i64 0, .int .i64 1] 3)
  have b1 := b1.alloc (.cells #[.int .i64 0, .int .i64 1] 3)
  have b2 := b2.alloc (.cells #[.int .i64 0, .int .i64 1] 3)
  generalize hw4 : w3.alloc _ = w4 at b0 b1 b2 b3 ⊢
  have s4 : w4.heap.size = w3.heap.size + 1 := by rw [← hw4]; simp
  have h4 : Below w.heap.size w w4 := by rw [← hw4]; exact h3.alloc (by omega) _
  clear hw4
  refine bodyPost_ret (ret_blk rfl _ _ (g := w.heap.size) rfl b0 _ hun.out rfl hdd.out) rfl ?_
  have e1 : w.heap.size + 1 = w1.heap.size := s1.symm
  have e2 : w1.heap.size + 1 = w2.heap.size := s2.symm
  have e3 : w2.heap.size + 1 = w3.heap.size := s3.symm
  rw [e1, e2, e3]
  exact ⟨⟨_, 4, 4, _, 3, 3, _, 2, 2, 2⟩, rfl, ⟨b1.rds 0 4, b2.rds 0 6, b3.rds 0 2, rfl, rfl, rfl, ⟨Nat.le_refl 4, (show 4 ≤ maxLen by decide), (fun h => by cases h)⟩, ⟨Nat.le_refl 3, (show 3 ≤ maxLen by decide), (fun h => by cases h)⟩, ⟨Nat.le_refl 2, (show 2 ≤ maxLen by decide), (fun h => by cases h)⟩, (show 4 ≤ 140737488355328 by decide), (show 3 ≤ 140737488355328 by decide), (show 2 ≤ 140737488355328 by decide), rfl, Nat.le_refl _, ex_fit.f1, ex_fit.f2, ex_fit.f3, ex_fit.f4⟩, h4⟩
end Go.Proofs.Ytelcaddgkjkegaa
