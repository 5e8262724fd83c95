/-
  The law on keyed hashes: its walk.
-/
import Derived.Test.YtedhjjlnionckaaDoorRfin
namespace Go.Proofs.YtedhjjlnionckaaDoor
set_option linter.unusedVariables false
open Go.RowKit

set_option maxRecDepth 100000 in
set_option maxHeartbeats 2000000 in
theorem walk_hmacspec (key msg : List UInt8) (w : World) (hk : key.length ≤ 140737488351232) (hm : msg.length ≤ 140737488351232) (ht : Tab 1 w) (hc : Tab 0 w) :
    Calls Tryd.prog 5 #[sv key, sv msg] w (OkEnd true w) := by
  have hT := Lib.hid ht
  have hC := Lib.hid hc
  have HSan := Lib.hid (fun W hT => sanity_any W hT)
  have K1 := Lib.hid (bs_size key)
  have K2 := Lib.hid (bs_size msg)
  by_cases hbig : 400 < key.length ∨ 400 < msg.length
  · unfold sv
    rcases Decidable.em (400 < key.length) with hA | hA
    · have t1 : (400 : Int) < (bs key).size := by rw [K1.out]; omega
      generalize bs key = S1 at t1 ⊢
      go_enter Tryd.func5, Tryd.ntmps5
      go_wp2_with fail
      refine (HSan.out _ ht).mono ?_
      rintro e w1 ⟨rfl, hb1⟩
      go_wp2_with fail
      go_ret
      exact ⟨rfl, hb1⟩
    · have t1 : ¬ (400 : Int) < (bs key).size := by rw [K1.out]; omega
      have t2 : (400 : Int) < (bs msg).size := by rw [K2.out]; omega
      generalize bs key = S1 at t1 ⊢
      generalize bs msg = S2 at t2 ⊢
      go_enter Tryd.func5, Tryd.ntmps5
      go_wp2_with fail
      refine (HSan.out _ ht).mono ?_
      rintro e w1 ⟨rfl, hb1⟩
      go_wp2_with fail
      go_ret
      exact ⟨rfl, hb1⟩
  · have t1 : ¬ (400 : Int) < (bs key).size := by rw [K1.out]; omega
    have t2 : ¬ (400 : Int) < (bs msg).size := by rw [K2.out]; omega
    have H1 := Lib.hid (fun W hT => hmac_any key msg W (by omega) hT)
    have H2 := Lib.hid (fun W hC => refHmac_any key msg W (by omega) (by omega) hC)
    have hl := Sha.hmac_len key msg
    generalize Sha.hmac key msg = H at H1 H2 hl
    unfold sv at H1 H2 ⊢
    unfold av at H1 H2
    generalize bs key = S1 at t1 H1 H2 ⊢
    generalize bs msg = S2 at t2 H1 H2 ⊢
    clear K1 K2 hbig hk hm
    go_enter Tryd.func5, Tryd.ntmps5
    go_wp2_with fail
    refine (HSan.out _ ht).mono ?_
    rintro e w1 ⟨rfl, hb1⟩
    go_wp2_with fail
    refine (H1.out _ (hT.out.on hb1)).mono ?_
    rintro e w2 ⟨rfl, hb2⟩
    have hB2 : Below w.heap.size w w2 := hb1.trans (hb2.mono hb1.size)
    clear hb1 hb2
    go_wp2_with fail
    refine (H2.out _ (hC.out.on hB2)).mono ?_
    rintro e w3 ⟨rfl, hb3⟩
    have hB3 : Below w.heap.size w w3 := hB2.trans (hb3.mono hB2.size)
    clear hb3 hB2
    go_wp2_with (refine wpList_eql_bytes (by rfl) 24 _ _ _ rfl 32 Tryd.underlying24 (by kernel_rfl) H H hl hl rfl rfl true (by simp) ?_)
    go_ret
    exact ⟨rfl, hB3⟩
end Go.Proofs.YtedhjjlnionckaaDoor
