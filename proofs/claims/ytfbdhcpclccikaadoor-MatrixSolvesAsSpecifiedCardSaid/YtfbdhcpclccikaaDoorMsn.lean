/-
  Stage 5: sanity, the walk.
-/
import Derived.Test.YtfbdhcpclccikaaDoorMsl
namespace Go.Proofs.YtfbdhcpclccikaaDoor
set_option linter.unusedVariables false
set_option linter.unusedSimpArgs false
open Go.RowKit
theorem belowC {a b c : World} (h : Below a.heap.size a b) (h2 : Below b.heap.size b c) : Below a.heap.size a c := h.trans (h2.mono h.size)
set_option maxRecDepth 100000 in
set_option maxHeartbeats 4000000 in
theorem sanity_any5 (w : World) (ht : PTab 0 w) : Calls Tryd.prog 18 #[] w fun e w' => e = .returned (.bool true) ∧ Below w.heap.size w w' := by
  have E0 : Hid (Below w.heap.size w w) := Below.refl _ _
  have T0 : Hid (PTab 0 w) := ht
  clear ht
  go_enter Tryd.func18, Tryd.ntmps18
  go_wp2_with fail
  refine (sn1 w T0.out).mono ?_
  rintro e w1 ⟨⟨A1, c1, rfl, -, -, -, hm1⟩, hb1⟩
  have R1 := Lib.hid hm1
  have D1 := Lib.hid hb1
  have E1 : Hid (Below w.heap.size w w1) := E0.out.trans (hb1.mono E0.out.size)
  have T1 : Hid (PTab 0 w1) := T0.out.on hb1
  clear hb1 hm1
  go_wp2_with fail
  refine (sn2 w1 T1.out).mono ?_
  rintro e w2 ⟨⟨A2, c2, vp, rfl, -, -, -, hm2, ⟨a2p, c2p, rfl, -, -, -, hp2⟩⟩, hb2⟩
  have R2 := Lib.hid hm2
  have D2 := Lib.hid hb2
  have E2 : Hid (Below w.heap.size w w2) := E1.out.trans (hb2.mono E1.out.size)
  have T2 : Hid (PTab 0 w2) := T1.out.on hb2
  clear hb2 hm2
  have RP := Lib.hid hp2
  clear hp2
  go_wp2_with fail
  refine (sn3 w2 T2.out).mono ?_
  rintro e w3 ⟨⟨xv3, A3, c3, rfl, ⟨ax3, cx3, rfl, -, -, -, hx3⟩, -, -, -, hm3⟩, hb3⟩
  have R3 := Lib.hid hm3
  have D3 := Lib.hid hb3
  have E3 : Hid (Below w.heap.size w w3) := E2.out.trans (hb3.mono E2.out.size)
  have T3 : Hid (PTab 0 w3) := T2.out.on hb3
  clear hb3 hm3
  have RX := Lib.hid hx3
  clear hx3
  go_wp2_with fail
  refine (sn4 w3 T3.out).mono ?_
  rintro e w4 ⟨⟨xv4, A4, c4, rfl, ⟨ax4, cx4, rfl, -, -, -, hx4⟩, -, -, -, hm4⟩, hb4⟩
  have R4 := Lib.hid hm4
  have D4 := Lib.hid hb4
  have E4 : Hid (Below w.heap.size w w4) := E3.out.trans (hb4.mono E3.out.size)
  have T4 : Hid (PTab 0 w4) := T3.out.on hb4
  clear hb4 hm4
  clear hx4
  go_wp2_with fail
  refine (sn5 w4 T4.out).mono ?_
  rintro e w5 ⟨⟨A5, c5, rfl, -, -, -, hm5⟩, hb5⟩
  have R5 := Lib.hid hm5
  have D5 := Lib.hid hb5
  have E5 : Hid (Below w.heap.size w w5) := E4.out.trans (hb5.mono E4.out.size)
  have T5 : Hid (PTab 0 w5) := T4.out.on hb5
  clear hb5 hm5
  go_wp2_with fail
  refine (sn6 w5 T5.out).mono ?_
  rintro e w6 ⟨⟨A6, c6, rfl, -, -, -, hm6⟩, hb6⟩
  have R6 := Lib.hid hm6
  have D6 := Lib.hid hb6
  have E6 : Hid (Below w.heap.size w w6) := E5.out.trans (hb6.mono E5.out.size)
  have T6 : Hid (PTab 0 w6) := T5.out.on hb6
  clear hb6 hm6
  go_wp2_with fail
  refine (sn7 w6 T6.out).mono ?_
  rintro e w7 ⟨⟨xv7, rfl, ⟨ax7, cx7, rfl, -, -, -, hm7⟩⟩, hb7⟩
  have R7 := Lib.hid hm7
  have D7 := Lib.hid hb7
  have E7 : Hid (Below w.heap.size w w7) := E6.out.trans (hb7.mono E6.out.size)
  have T7 : Hid (PTab 0 w7) := T6.out.on hb7
  clear hb7 hm7
  go_wp2_with fail
  refine (sn8 w7 T7.out).mono ?_
  rintro e w8 ⟨⟨xv8, rfl, ⟨ax8, cx8, rfl, -, -, -, hm8⟩⟩, hb8⟩
  have R8 := Lib.hid hm8
  have D8 := Lib.hid hb8
  have E8 : Hid (Below w.heap.size w w8) := E7.out.trans (hb8.mono E7.out.size)
  have T8 : Hid (PTab 0 w8) := T7.out.on hb8
  clear hb8 hm8
  go_wp2_with fail
  refine (sn9 w8 T8.out).mono ?_
  rintro e w9 ⟨⟨xv9, rfl, ⟨ax9, cx9, rfl, -, -, -, hm9⟩⟩, hb9⟩
  have R9 := Lib.hid hm9
  have D9 := Lib.hid hb9
  have E9 : Hid (Below w.heap.size w w9) := E8.out.trans (hb9.mono E8.out.size)
  have T9 : Hid (PTab 0 w9) := T8.out.on hb9
  clear hb9 hm9
  go_wp2_with fail
  refine (sn10 w9 T9.out).mono ?_
  rintro e w10 ⟨⟨A10, c10, rfl, -, -, -, hm10⟩, hb10⟩
  have R10 := Lib.hid hm10
  have D10 := Lib.hid hb10
  have E10 : Hid (Below w.heap.size w w10) := E9.out.trans (hb10.mono E9.out.size)
  have T10 : Hid (PTab 0 w10) := T9.out.on hb10
  clear hb10 hm10
  go_wp2_with fail
  refine (sn11 w10 T10.out).mono ?_
  rintro e w11 ⟨rfl, hb11⟩
  have D11 := Lib.hid hb11
  have E11 : Hid (Below w.heap.size w w11) := E10.out.trans (hb11.mono E10.out.size)
  have T11 : Hid (PTab 0 w11) := T10.out.on hb11
  clear hb11
  go_wp2_with fail
  refine (sn12 w11 T11.out).mono ?_
  rintro e w12 ⟨rfl, hb12⟩
  have D12 := Lib.hid hb12
  have E12 : Hid (Below w.heap.size w w12) := E11.out.trans (hb12.mono E11.out.size)
  have T12 : Hid (PTab 0 w12) := T11.out.on hb12
  clear hb12
  have hmk : (Instr.makeSlice 22 (.int .i64 49) (.int .i64 49)).run Tryd.prog w12 = .ok (.slice (some ⟨w12.heap.size, 0, none⟩) 49 49) (w12.alloc (.cells (madeCells #[.slice none 0 0] 49) 43)) := run_make_row' (P := Tryd.prog) 22 43 (.slice none 0 0) 24 Tryd.underlying22 infoRow rfl .i64 .i64 49 (by decide) (by decide) w12
  go_wp2_with fail
  refine (sn13 w12).mono ?_
  rintro e w13 ⟨rfl, hb13⟩
  have D13 := Lib.hid hb13
  have E13 : Hid (Below w.heap.size w w13) := E12.out.trans (hb13.mono E12.out.size)
  have T13 : Hid (PTab 0 w13) := T12.out.on hb13
  clear hb13
  clear hmk
  go_wp2_with fail
  refine (sm1 A1 c1 w13 (R1.out.below (belowC (belowC (belowC (belowC (belowC (belowC (belowC (belowC (belowC (belowC (belowC D2.out D3.out) D4.out) D5.out) D6.out) D7.out) D8.out) D9.out) D10.out) D11.out) D12.out) D13.out)) (belowC (belowC (belowC (belowC (belowC (belowC (belowC (belowC (belowC (belowC (belowC D2.out D3.out) D4.out) D5.out) D6.out) D7.out) D8.out) D9.out) D10.out) D11.out) D12.out) D13.out).size).mono ?_
  rintro e w14 ⟨rfl, hb14⟩
  have D14 := Lib.hid hb14
  have E14 : Hid (Below w.heap.size w w14) := E13.out.trans (hb14.mono E13.out.size)
  clear hb14
  go_wp2_with fail
  refine (sm2 A2 c2 w14 (R2.out.below (belowC (belowC (belowC (belowC (belowC (belowC (belowC (belowC (belowC (belowC (belowC D3.out D4.out) D5.out) D6.out) D7.out) D8.out) D9.out) D10.out) D11.out) D12.out) D13.out) D14.out)) (belowC (belowC (belowC (belowC (belowC (belowC (belowC (belowC (belowC (belowC (belowC D3.out D4.out) D5.out) D6.out) D7.out) D8.out) D9.out) D10.out) D11.out) D12.out) D13.out) D14.out).size).mono ?_
  rintro e w15 ⟨rfl, hb15⟩
  have D15 := Lib.hid hb15
  have E15 : Hid (Below w.heap.size w w15) := E14.out.trans (hb15.mono E14.out.size)
  clear hb15
  go_wp2_with fail
  refine (sm3 a2p c2p w15 (RP.out.below (belowC (belowC (belowC (belowC (belowC (belowC (belowC (belowC (belowC (belowC (belowC (belowC D3.out D4.out) D5.out) D6.out) D7.out) D8.out) D9.out) D10.out) D11.out) D12.out) D13.out) D14.out) D15.out)) (belowC (belowC (belowC (belowC (belowC (belowC (belowC (belowC (belowC (belowC (belowC (belowC D3.out D4.out) D5.out) D6.out) D7.out) D8.out) D9.out) D10.out) D11.out) D12.out) D13.out) D14.out) D15.out).size).mono ?_
  rintro e w16 ⟨rfl, hb16⟩
  have D16 := Lib.hid hb16
  have E16 : Hid (Below w.heap.size w w16) := E15.out.trans (hb16.mono E15.out.size)
  clear hb16
  go_wp2_with fail
  refine (sm4 ax3 cx3 w16 (RX.out.below (belowC (belowC (belowC (belowC (belowC (belowC (belowC (belowC (belowC (belowC (belowC (belowC D4.out D5.out) D6.out) D7.out) D8.out) D9.out) D10.out) D11.out) D12.out) D13.out) D14.out) D15.out) D16.out)) (belowC (belowC (belowC (belowC (belowC (belowC (belowC (belowC (belowC (belowC (belowC (belowC D4.out D5.out) D6.out) D7.out) D8.out) D9.out) D10.out) D11.out) D12.out) D13.out) D14.out) D15.out) D16.out).size).mono ?_
  rintro e w17 ⟨rfl, hb17⟩
  have D17 := Lib.hid hb17
  have E17 : Hid (Below w.heap.size w w17) := E16.out.trans (hb17.mono E16.out.size)
  clear hb17
  go_wp2_with fail
  refine (sm5 A3 c3 w17 (R3.out.below (belowC (belowC (belowC (belowC (belowC (belowC (belowC (belowC (belowC (belowC (belowC (belowC (belowC D4.out D5.out) D6.out) D7.out) D8.out) D9.out) D10.out) D11.out) D12.out) D13.out) D14.out) D15.out) D16.out) D17.out)) (belowC (belowC (belowC (belowC (belowC (belowC (belowC (belowC (belowC (belowC (belowC (belowC (belowC D4.out D5.out) D6.out) D7.out) D8.out) D9.out) D10.out) D11.out) D12.out) D13.out) D14.out) D15.out) D16.out) D17.out).size).mono ?_
  rintro e w18 ⟨rfl, hb18⟩
  have D18 := Lib.hid hb18
  have E18 : Hid (Below w.heap.size w w18) := E17.out.trans (hb18.mono E17.out.size)
  clear hb18
  go_wp2_with fail
  refine (sm6 A5 c5 w18 (R5.out.below (belowC (belowC (belowC (belowC (belowC (belowC (belowC (belowC (belowC (belowC (belowC (belowC D6.out D7.out) D8.out) D9.out) D10.out) D11.out) D12.out) D13.out) D14.out) D15.out) D16.out) D17.out) D18.out)) (belowC (belowC (belowC (belowC (belowC (belowC (belowC (belowC (belowC (belowC (belowC (belowC D6.out D7.out) D8.out) D9.out) D10.out) D11.out) D12.out) D13.out) D14.out) D15.out) D16.out) D17.out) D18.out).size).mono ?_
  rintro e w19 ⟨rfl, hb19⟩
  have D19 := Lib.hid hb19
  have E19 : Hid (Below w.heap.size w w19) := E18.out.trans (hb19.mono E18.out.size)
  clear hb19
  go_wp2_with fail
  refine (sm7 ax7 cx7 w19 (R7.out.below (belowC (belowC (belowC (belowC (belowC (belowC (belowC (belowC (belowC (belowC (belowC D8.out D9.out) D10.out) D11.out) D12.out) D13.out) D14.out) D15.out) D16.out) D17.out) D18.out) D19.out)) (belowC (belowC (belowC (belowC (belowC (belowC (belowC (belowC (belowC (belowC (belowC D8.out D9.out) D10.out) D11.out) D12.out) D13.out) D14.out) D15.out) D16.out) D17.out) D18.out) D19.out).size).mono ?_
  rintro e w20 ⟨rfl, hb20⟩
  have D20 := Lib.hid hb20
  have E20 : Hid (Below w.heap.size w w20) := E19.out.trans (hb20.mono E19.out.size)
  clear hb20
  go_wp2_with fail
  refine (sm8 A10 c10 w20 (R10.out.below (belowC (belowC (belowC (belowC (belowC (belowC (belowC (belowC (belowC D11.out D12.out) D13.out) D14.out) D15.out) D16.out) D17.out) D18.out) D19.out) D20.out)) (belowC (belowC (belowC (belowC (belowC (belowC (belowC (belowC (belowC D11.out D12.out) D13.out) D14.out) D15.out) D16.out) D17.out) D18.out) D19.out) D20.out).size).mono ?_
  rintro e w21 ⟨rfl, hb21⟩
  have D21 := Lib.hid hb21
  have E21 : Hid (Below w.heap.size w w21) := E20.out.trans (hb21.mono E20.out.size)
  clear hb21
  go_wp2_with fail
  go_ret
  exact ⟨rfl, E21.out⟩
end Go.Proofs.YtfbdhcpclccikaaDoor
