/-
  32-bit operations, as a walk leaves them, brought to Sha's forms.
-/
import Derived.Test.YtedhjjlnionckaaDoorSha2
import Derived.Laws.BitsAllLaws
namespace Go.Proofs.YtedhjjlnionckaaDoor.Sha

theorem rotr_lt (x n : Nat) : rotr x n < 4294967296 := Nat.mod_lt _ (by decide)
theorem rotr_val (x n : Nat) (hx : x < 4294967296) : bits BinOp.or IntKind.u32 ((x : Int) / 2 ^ n) ((x : Int) * 2 ^ (32 - n) % 4294967296) = (rotr x n : Nat) := by
  have e1 : ((x : Int) / 2 ^ n) = ((x >>> n : Nat) : Int) := by rw [Nat.shiftRight_eq_div_pow]; simp
  have e2 : ((x : Int) * 2 ^ (32 - n) % 4294967296) = ((x <<< (32 - n) % 4294967296 : Nat) : Int) := by rw [Nat.shiftLeft_eq]; simp
  have l1 : x >>> n < 4294967296 := Nat.lt_of_le_of_lt (Nat.shiftRight_le x n) hx
  rw [e1, e2, u32_or_nat _ _ l1 (Nat.mod_lt _ (by decide))]
  unfold rotr
  rw [show (4294967296 : Nat) = 2 ^ 32 from rfl, Nat.or_mod_two_pow, Nat.mod_eq_of_lt (a := x >>> n) l1]
theorem and_val (a b : Nat) (ha : a < 4294967296) (hb : b < 4294967296) : bits BinOp.and IntKind.u32 (a : Int) (b : Int) = ((a &&& b : Nat) : Int) := u32_and_nat a b ha hb
theorem xor_val (a b : Nat) (ha : a < 4294967296) (hb : b < 4294967296) : bits BinOp.xor IntKind.u32 (a : Int) (b : Int) = ((a ^^^ b : Nat) : Int) := u32_xor_nat a b ha hb
theorem flip_val (a : Nat) (ha : a < 4294967296) : bits BinOp.xor IntKind.u32 (a : Int) 4294967295 = (flip a : Nat) := u32_xor_nat a 4294967295 ha (by decide)
theorem and_lt {a b : Nat} (ha : a < 4294967296) : a &&& b < 4294967296 := Nat.lt_of_le_of_lt Nat.and_le_left ha
theorem xor_lt {a b : Nat} (ha : a < 4294967296) (hb : b < 4294967296) : a ^^^ b < 4294967296 := Nat.xor_lt_two_pow (n := 32) ha hb
theorem or_lt {a b : Nat} (ha : a < 4294967296) (hb : b < 4294967296) : a ||| b < 4294967296 := Nat.or_lt_two_pow (n := 32) ha hb
theorem flip_lt {a : Nat} (ha : a < 4294967296) : flip a < 4294967296 := xor_lt ha (by decide)
theorem shr_lt {a n : Nat} (ha : a < 4294967296) : a >>> n < 4294967296 := Nat.lt_of_le_of_lt (Nat.shiftRight_le a n) ha
end Go.Proofs.YtedhjjlnionckaaDoor.Sha
