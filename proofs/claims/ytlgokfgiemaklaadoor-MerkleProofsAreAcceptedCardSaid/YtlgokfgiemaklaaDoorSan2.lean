/-
  The statements' own check of the examples.
-/
import Derived.Test.YtlgokfgiemaklaaDoorCv
import Derived.Test.YtlgokfgiemaklaaDoorStx
namespace Go.Proofs.YtlgokfgiemaklaaDoor
set_option linter.unusedVariables false
open Go.RowKit

def hexn (l : List Nat) : List UInt8 := l.flatMap fun n => [digits16.getD (n / 16) 0, digits16.getD (n % 16) 0]
theorem hexs_hexn (l : List UInt8) : hexs l = hexn (l.map UInt8.toNat) := by
  unfold hexs hexn
  rw [List.flatMap_map]
theorem hash_nil (tag : Int) : Sha.hashOf tag [] = (Sha.sum [UInt8.ofNat (tag % 256).toNat]).take 16 := rfl
theorem hex_abc : bs (hexs (Sha.sum [97, 98, 99])) = ⟨#[98, 97, 55, 56, 49, 54, 98, 102, 56, 102, 48, 49, 99, 102, 101, 97, 52, 49, 52, 49, 52, 48, 100, 101, 53, 100, 97, 101, 50, 50, 50, 51, 98, 48, 48, 51, 54, 49, 97, 51, 57, 54, 49, 55, 55, 97, 57, 99, 98, 52, 49, 48, 102, 102, 54, 49, 102, 50, 48, 48, 49, 53, 97, 100]⟩ := by
  rw [hexs_hexn, Sha.sum_abc]
  rfl
theorem hex_one : bs (hexs (Sha.hashOf 1 [])) = ⟨#[52, 98, 102, 53, 49, 50, 50, 102, 51, 52, 52, 53, 53, 52, 99, 53, 51, 98, 100, 101, 50, 101, 98, 98, 56, 99, 100, 50, 98, 55, 101, 51]⟩ := by
  rw [hash_nil, hexs_hexn, show UInt8.ofNat (((1 : Int) % 256).toNat) = 1 from rfl, Sha.sum_one]
  rfl
theorem hex_jefe : bs (hexs (Sha.hmac [74, 101, 102, 101] [119, 104, 97, 116, 32, 100, 111, 32, 121, 97, 32, 119, 97, 110, 116, 32, 102, 111, 114, 32, 110, 111, 116, 104, 105, 110, 103, 63])) = ⟨#[53, 98, 100, 99, 99, 49, 52, 54, 98, 102, 54, 48, 55, 53, 52, 101, 54, 97, 48, 52, 50, 52, 50, 54, 48, 56, 57, 53, 55, 53, 99, 55, 53, 97, 48, 48, 51, 102, 48, 56, 57, 100, 50, 55, 51, 57, 56, 51, 57, 100, 101, 99, 53, 56, 98, 57, 54, 52, 101, 99, 51, 56, 52, 51]⟩ := by
  rw [hexs_hexn, Sha.hmac_jefe]
  rfl

end Go.Proofs.YtlgokfgiemaklaaDoor
