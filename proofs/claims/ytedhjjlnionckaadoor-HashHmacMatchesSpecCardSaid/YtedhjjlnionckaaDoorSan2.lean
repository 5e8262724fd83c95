/-
  The statements' own check of the examples.
-/
import Derived.Test.YtedhjjlnionckaaDoorCv
namespace Go.Proofs.YtedhjjlnionckaaDoor
set_option linter.unusedVariables false
open Go.RowKit

def hexn (l : List Nat) : List UInt8 := l.flatMap fun n => [digits16.getD (n / 16) 0, digits16.getD (n % 16) 0]
theorem hexs_hexn (l : List UInt8) : hexs l = hexn (l.map UInt8.toNat) := by
  unfold hexs hexn
  rw [List.flatMap_map]
theorem hash_nil (tag : Int) : Sha.hashOf tag [] = (Sha.sum [UInt8.ofNat (tag % 256).toNat]).take 16 := rfl
theorem hex_abc : bs (hexs (Sha.sum [97, 98, 99])) = ⟨#[98, 97, 55, 56, 49, 54, 98, 102, 56, 102, 48, 49, 99, 102, 101, 97, 52, 49, 52, 49, 52, 48, 100, 101, 53, 100, 97, 101, 50, 50, 50, 51, 98, 48, 48, 51, 54, 49, 97, 51, 57, 54, 49, 55, 55, 97, 57, 99, 98, 52, 49, 48, 102, 102, 54, 49, 102, 50, 48, 48, 49, 53, 97, 100]⟩ := by
  rw [hexs_hexn, Sha.sum_abc]
  rfl
theorem hex_one : bs (hexs (Sha.hashOf 1 [])) = ⟨#[52, 98, 102, 53, 49, 50, 50, 102, 51, 52, 52, 53, 53, 52, 99, 53, 51, 98, 100, 101, 50, 101, 98, 98, 56, 99, 100, 50, 98, 55, 101, 51]⟩ := by
  rw [hash_nil, hexs_hexn, show UInt8.ofNat (((1 : Int) % 256).toNat) = 1 from rfl, Sha.sum_one]
  rfl
theorem hex_jefe : bs (hexs (Sha.hmac [74, 101, 102, 101] [119, 104, 97, 116, 32, 100, 111, 32, 121, 97, 32, 119, 97, 110, 116, 32, 102, 111, 114, 32, 110, 111, 116, 104, 105, 110, 103, 63])) = ⟨#[53, 98, 100, 99, 99, 49, 52, 54, 98, 102, 54, 48, 55, 53, 52, 101, 54, 97, 48, 52, 50, 52, 50, 54, 48, 56, 57, 53, 55, 53, 99, 55, 53, 97, 48, 48, 51, 102, 48, 56, 57, 100, 50, 55, 51, 57, 56, 51, 57, 100, 101, 99, 53, 56, 98, 57, 54, 52, 101, 99, 51, 56, 52, 51]⟩ := by
  rw [hexs_hexn, Sha.hmac_jefe]
  rfl

set_option maxHeartbeats 1000000 in
theorem expand_none (seed : List UInt8) (n : Int) (w : World) (h : n < 1 ∨ 1048576 < n) : Calls Tryd.prog 27 #[sv seed, .int .i64 n] w fun e w' => e = .returned (sv []) ∧ w' = w := by
  rcases h with h | h
  · have h2 : n ≤ 0 := by omega
    go_enter Tryd.func27, Tryd.ntmps27
    go_wp2_with fail
    go_ret
    exact ⟨rfl, rfl⟩
  · have h2 : ¬ n < 1 := by omega
    go_enter Tryd.func27, Tryd.ntmps27
    go_wp2_with fail
    go_ret
    exact ⟨rfl, rfl⟩

set_option maxRecDepth 100000 in
set_option maxHeartbeats 2000000 in
theorem sanity_any (w : World) (ht : Tab 1 w) : Calls Tryd.prog 14 #[] w (OkEnd true w) := by
  have hT := Lib.hid ht
  have HS := Lib.hid (fun W A c (hr : Rds W W.heap.size A ([97, 98, 99].map bv)) (hT : Tab 1 W) => hashSum_any [97, 98, 99] A c W hr (by decide) hT)
  have HA1 : Hid (∀ v W, SVal [] v → Tab 1 W → Calls Tryd.prog 53 #[v, .string ⟨#[97]⟩] W fun e w' => ∃ v', (e = .returned v' ∧ SVal ([] ++ [97]) v') ∧ Below W.heap.size W w') := fun v W h hT => add_v [] [97] v W h (by decide) hT
  have HA2 : Hid (∀ v W, SVal ([] ++ [97]) v → Tab 1 W → Calls Tryd.prog 53 #[v, .string ⟨#[98, 99]⟩] W fun e w' => ∃ v', (e = .returned v' ∧ SVal [97, 98, 99] v') ∧ Below W.heap.size W w') := fun v W h hT => add_v [97] [98, 99] v W h (by decide) hT
  have HM := Lib.hid (fun v W (h : SVal [97, 98, 99] v) (hT : Tab 1 W) => sum_v [97, 98, 99] v W h (by decide) hT)
  have HOf : Hid (∀ W, Tab 1 W → Calls Tryd.prog 18 #[.int .i64 1, .slice none 0 0] W fun e w' => e = .returned (av (Sha.hashOf 1 [])) ∧ Below W.heap.size W w') := fun W hT => of_any 1 [] none 0 W Rds.empty (by decide) (by decide) hT
  have HH : Hid (∀ W, Tab 1 W → Calls Tryd.prog 20 #[.string ⟨#[74, 101, 102, 101]⟩, .string ⟨#[119, 104, 97, 116, 32, 100, 111, 32, 121, 97, 32, 119, 97, 110, 116, 32, 102, 111, 114, 32, 110, 111, 116, 104, 105, 110, 103, 63]⟩] W fun e w' => e = .returned (av (Sha.hmac [74, 101, 102, 101] [119, 104, 97, 116, 32, 100, 111, 32, 121, 97, 32, 119, 97, 110, 116, 32, 102, 111, 114, 32, 110, 111, 116, 104, 105, 110, 103, 63])) ∧ Below W.heap.size W w') := fun W hT => hmac_any [74, 101, 102, 101] [119, 104, 97, 116, 32, 100, 111, 32, 121, 97, 32, 119, 97, 110, 116, 32, 102, 111, 114, 32, 110, 111, 116, 104, 105, 110, 103, 63] W (by decide) hT
  have HE : Hid (∀ W, Tab 1 W → Calls Tryd.prog 27 #[.string ⟨#[97]⟩, .int .i64 33] W fun e w' => e = .returned (sv (Sha.expand [97] 33)) ∧ Below W.heap.size W w') := fun W hT => expand_pos [97] 33 W (by decide) (by decide) (by decide) hT
  have HE0 : Hid (∀ W, Calls Tryd.prog 27 #[.string ⟨#[97]⟩, .int .i64 0] W fun e w' => e = .returned (.string ⟨#[]⟩) ∧ w' = W) := fun W => expand_none [97] 0 W (by decide)
  have hEl : (bs (Sha.expand [97] 33)).size = 33 := by rw [bs_size, Sha.expand_len]
  have hAl := Sha.sum_len [97, 98, 99]
  have hKl := Sha.hmac_len [74, 101, 102, 101] [119, 104, 97, 116, 32, 100, 111, 32, 121, 97, 32, 119, 97, 110, 116, 32, 102, 111, 114, 32, 110, 111, 116, 104, 105, 110, 103, 63]
  have hDl : (Sha.hashOf 1 []).length = 16 := by rw [hash_nil, List.length_take, Sha.sum_len]; rfl
  have XA := Lib.hid (fun W => bytes32_any (Sha.sum [97, 98, 99]) W hAl)
  have XK := Lib.hid (fun W => bytes32_any (Sha.hmac [74, 101, 102, 101] [119, 104, 97, 116, 32, 100, 111, 32, 121, 97, 32, 119, 97, 110, 116, 32, 102, 111, 114, 32, 110, 111, 116, 104, 105, 110, 103, 63]) W hKl)
  have XD := Lib.hid (fun W => text16_any (Sha.hashOf 1 []) W hDl)
  have YA : Hid (∀ W, Calls Tryd.prog 55 #[sv (Sha.sum [97, 98, 99])] W fun e w' => e = .returned (.string ⟨#[98, 97, 55, 56, 49, 54, 98, 102, 56, 102, 48, 49, 99, 102, 101, 97, 52, 49, 52, 49, 52, 48, 100, 101, 53, 100, 97, 101, 50, 50, 50, 51, 98, 48, 48, 51, 54, 49, 97, 51, 57, 54, 49, 55, 55, 97, 57, 99, 98, 52, 49, 48, 102, 102, 54, 49, 102, 50, 48, 48, 49, 53, 97, 100]⟩) ∧ Below W.heap.size W w') := fun W => by rw [← hex_abc]; exact hex_any _ W (by rw [hAl]; decide)
  have YK : Hid (∀ W, Calls Tryd.prog 55 #[sv (Sha.hmac [74, 101, 102, 101] [119, 104, 97, 116, 32, 100, 111, 32, 121, 97, 32, 119, 97, 110, 116, 32, 102, 111, 114, 32, 110, 111, 116, 104, 105, 110, 103, 63])] W fun e w' => e = .returned (.string ⟨#[53, 98, 100, 99, 99, 49, 52, 54, 98, 102, 54, 48, 55, 53, 52, 101, 54, 97, 48, 52, 50, 52, 50, 54, 48, 56, 57, 53, 55, 53, 99, 55, 53, 97, 48, 48, 51, 102, 48, 56, 57, 100, 50, 55, 51, 57, 56, 51, 57, 100, 101, 99, 53, 56, 98, 57, 54, 52, 101, 99, 51, 56, 52, 51]⟩) ∧ Below W.heap.size W w') := fun W => by rw [← hex_jefe]; exact hex_any _ W (by rw [hKl]; decide)
  have YD : Hid (∀ W, Calls Tryd.prog 55 #[sv (Sha.hashOf 1 [])] W fun e w' => e = .returned (.string ⟨#[52, 98, 102, 53, 49, 50, 50, 102, 51, 52, 52, 53, 53, 52, 99, 53, 51, 98, 100, 101, 50, 101, 98, 98, 56, 99, 100, 50, 98, 55, 101, 51]⟩) ∧ Below W.heap.size W w') := fun W => by rw [← hex_one]; exact hex_any _ W (by rw [hDl]; decide)
  generalize Sha.sum [97, 98, 99] = ZA at HS HM hAl XA YA
  generalize Sha.hmac [74, 101, 102, 101] [119, 104, 97, 116, 32, 100, 111, 32, 121, 97, 32, 119, 97, 110, 116, 32, 102, 111, 114, 32, 110, 111, 116, 104, 105, 110, 103, 63] = ZK at HH hKl XK YK
  generalize Sha.hashOf 1 [] = ZD at HOf hDl XD YD
  unfold sv at XA XK XD YA YK YD HE
  generalize bs ZA = SA at XA YA
  generalize bs ZK = SK at XK YK
  generalize bs ZD = SD at XD YD
  generalize bs (Sha.expand [97] 33) = SE at HE hEl
  have hA1 : (ZA.map bv).length = 32 := by rw [List.length_map, hAl]
  have hK1 : (ZK.map bv).length = 32 := by rw [List.length_map, hKl]
  have hD1 : (ZD.map bv).length = 16 := by rw [List.length_map, hDl]
  have hAs : Hid ((Tryd.prog.info? 24).map (·.size) = some (ZA.map bv).length) := by show _ = _; rw [hA1]; exact size_b32
  have hKs : Hid ((Tryd.prog.info? 24).map (·.size) = some (ZK.map bv).length) := by show _ = _; rw [hK1]; exact size_b32
  have hDs := Lib.hid (size_dig16 _ hD1)
  unfold av at HS HM HOf HH XA XK XD
  go_enter Tryd.func14, Tryd.ntmps14
  go_wp2_with (refine wpList_bytes_const rfl _ rfl [97, 98, 99] 3 3 rfl ?_; intro w1 hrd1 hb1 hs1)
  refine (HS.out _ _ _ hrd1 (hT.out.on hb1)).mono ?_
  rintro e w2 ⟨rfl, hb2⟩
  have hB2 : Below w.heap.size w w2 := hb1.trans (hb2.mono hb1.size)
  clear hrd1 hb1 hs1 hb2
  go_wp2_with (refine wpList_row_store rfl 24 _ _ rfl (ZA.map bv) rfl rfl (Blk.new w2 (bz 32) 24) hAs.out (by rw [hA1]; rfl) (av_one ZA) ?_; intro w3 hW3 ho3)
  have hB3 : Below w.heap.size w w3 := (hB2.alloc hB2.size _).trans (ho3.below hB2.size)
  refine (begin_v _).mono ?_
  rintro e w4 ⟨v4, ⟨rfl, hv4⟩, hb4⟩
  have hB4 : Below w.heap.size w w4 := hB3.trans (hb4.mono hB3.size)
  have hW4 := Lib.hid (hW3.out.below hb4 hW3.out.lt)
  clear ho3 hW3 hB2
  go_wp2_with fail
  refine (HA1.out _ _ hv4 (hT.out.on hB4)).mono ?_
  rintro e w5 ⟨v5, ⟨rfl, hv5⟩, hb5⟩
  have hB5 : Below w.heap.size w w5 := hB4.trans (hb5.mono hB4.size)
  have hW5 := Lib.hid (hW4.out.below hb5 hW4.out.lt)
  clear hv4 hb4 hb5 hW4 hB3
  go_wp2_with fail
  refine (HA2.out _ _ hv5 (hT.out.on hB5)).mono ?_
  rintro e w6 ⟨v6, ⟨rfl, hv6⟩, hb6⟩
  have hB6 : Below w.heap.size w w6 := hB5.trans (hb6.mono hB5.size)
  have hW6 := Lib.hid (hW5.out.below hb6 hW5.out.lt)
  clear hv5 hb6 hW5 hB4
  go_wp2_with fail
  refine (HM.out _ _ hv6 (hT.out.on hB6)).mono ?_
  rintro e w7 ⟨rfl, hb7⟩
  have hB7 : Below w.heap.size w w7 := hB6.trans (hb7.mono hB6.size)
  have hW7 := Lib.hid (hW6.out.below hb7 hW6.out.lt)
  clear hv6 hb7 hW6 hB5
  go_wp2_with (refine wpList_row_store rfl 24 _ _ rfl (ZA.map bv) rfl rfl (Blk.new w7 (bz 32) 24) hAs.out (by rw [hA1]; rfl) (av_one ZA) ?_; intro w8 hV8 ho8)
  have hB8 : Below w.heap.size w w8 := (hB7.alloc hB7.size _).trans (ho8.below hB7.size)
  have hW8 := Lib.hid ((hW7.out.alloc (.cells (bz 32).toArray 24)).only ho8 (Nat.ne_of_lt hW7.out.lt))
  clear hW7 ho8 hB6
  refine (HOf.out _ (hT.out.on hB8)).mono ?_
  rintro e w9 ⟨rfl, hb9⟩
  have hB9 : Below w.heap.size w w9 := hB8.trans (hb9.mono hB8.size)
  have hW9 := Lib.hid (hW8.out.below hb9 hW8.out.lt)
  have hV9 := Lib.hid (hV8.out.below hb9 hV8.out.lt)
  clear hb9 hW8 hV8 hB7
  go_wp2_with (refine wpList_row_store rfl 30 _ _ rfl (ZD.map bv) rfl rfl (Blk.new w9 (bz 16) 30) hDs.out (by rw [hD1]; rfl) (av_one ZD) ?_; intro w10 hD10 ho10)
  have hB10 : Below w.heap.size w w10 := (hB9.alloc hB9.size _).trans (ho10.below hB9.size)
  have hW10 := Lib.hid ((hW9.out.alloc (.cells (bz 16).toArray 30)).only ho10 (Nat.ne_of_lt hW9.out.lt))
  have hV10 := Lib.hid ((hV9.out.alloc (.cells (bz 16).toArray 30)).only ho10 (Nat.ne_of_lt hV9.out.lt))
  clear hW9 hV9 ho10 hB8
  refine (HH.out _ (hT.out.on hB10)).mono ?_
  rintro e w11 ⟨rfl, hb11⟩
  have hB11 : Below w.heap.size w w11 := hB10.trans (hb11.mono hB10.size)
  have hW11 := Lib.hid (hW10.out.below hb11 hW10.out.lt)
  have hV11 := Lib.hid (hV10.out.below hb11 hV10.out.lt)
  have hD11 := Lib.hid (hD10.out.below hb11 hD10.out.lt)
  clear hb11 hW10 hV10 hD10 hB9
  go_wp2_with (first | (refine wpList_row_store rfl 24 _ _ rfl (ZK.map bv) rfl rfl (Blk.new w11 (bz 32) 24) hKs.out (by rw [hK1]; rfl) (av_one ZK) ?_; intro w12 hK12 ho12; have hB12 : Below w.heap.size w w12 := (hB11.alloc hB11.size _).trans (ho12.below hB11.size); have hW12 := Lib.hid ((hW11.out.alloc (.cells (bz 32).toArray 24)).only ho12 (Nat.ne_of_lt hW11.out.lt)); have hV12 := Lib.hid ((hV11.out.alloc (.cells (bz 32).toArray 24)).only ho12 (Nat.ne_of_lt hV11.out.lt)); have hD12 := Lib.hid ((hD11.out.alloc (.cells (bz 32).toArray 24)).only ho12 (Nat.ne_of_lt hD11.out.lt)); clear hW11 hV11 hD11 ho12) | (refine wpList_blk_loadW (by rfl) 24 _ rfl 0 rfl hW12.out (ZA.map bv) (take_all0 _) (.array 32 5) Tryd.underlying24 rfl hAs.out ?_))
  refine (XA.out _).mono ?_
  rintro e w13 ⟨rfl, hb13⟩
  go_wp2_with fail
  refine (YA.out _).mono ?_
  rintro e w14 ⟨rfl, hb14⟩
  have hb1214 : Below w12.heap.size w12 w14 := hb13.trans (hb14.mono hb13.size)
  have hB14 : Below w.heap.size w w14 := hB12.trans (hb1214.mono hB12.size)
  have hW14 := Lib.hid (hW12.out.below hb1214 hW12.out.lt)
  have hV14 := Lib.hid (hV12.out.below hb1214 hV12.out.lt)
  have hD14 := Lib.hid (hD12.out.below hb1214 hD12.out.lt)
  have hK14 := Lib.hid (hK12.out.below hb1214 hK12.out.lt)
  clear hb13 hb14 hb1214 hW12 hV12 hD12 hK12 hB12 hB10 hB11
  go_wp2_with (first | (refine wpList_blk_loadW (by rfl) 24 _ rfl 0 rfl hW14.out (ZA.map bv) (take_all0 _) (.array 32 5) Tryd.underlying24 rfl hAs.out ?_) | (refine wpList_blk_loadW (by rfl) 24 _ rfl 0 rfl hV14.out (ZA.map bv) (take_all0 _) (.array 32 5) Tryd.underlying24 rfl hAs.out ?_) | (refine wpList_eql_bytes (by rfl) 24 _ _ _ rfl 32 Tryd.underlying24 (by kernel_rfl) ZA ZA hAl hAl rfl rfl true (by simp) ?_) | (refine wpList_blk_loadW (by rfl) 30 _ rfl 0 rfl hD14.out (ZD.map bv) (take_all0 _) (.array 16 5) arr_dig rfl hDs.out ?_))
  refine (XD.out _).mono ?_
  rintro e w15 ⟨rfl, hb15⟩
  go_wp2_with fail
  refine (YD.out _).mono ?_
  rintro e w16 ⟨rfl, hb16⟩
  have hb1416 : Below w14.heap.size w14 w16 := hb15.trans (hb16.mono hb15.size)
  have hB16 : Below w.heap.size w w16 := hB14.trans (hb1416.mono hB14.size)
  have hK16 := Lib.hid (hK14.out.below hb1416 hK14.out.lt)
  clear hb15 hb16 hb1416 hW14 hV14 hD14 hK14 hB14
  go_wp2_with (refine wpList_blk_loadW (by rfl) 24 _ rfl 0 rfl hK16.out (ZK.map bv) (take_all0 _) (.array 32 5) Tryd.underlying24 rfl hKs.out ?_)
  refine (XK.out _).mono ?_
  rintro e w17 ⟨rfl, hb17⟩
  go_wp2_with fail
  refine (YK.out _).mono ?_
  rintro e w18 ⟨rfl, hb18⟩
  have hB18 : Below w.heap.size w w18 := (hB16.trans (hb17.mono hB16.size)).trans (hb18.mono (Nat.le_trans hB16.size hb17.size))
  clear hb17 hb18 hK16 hB16
  go_wp2_with fail
  refine (HE.out _ (hT.out.on hB18)).mono ?_
  rintro e w19 ⟨rfl, hb19⟩
  have hB19 : Below w.heap.size w w19 := hB18.trans (hb19.mono hB18.size)
  clear hb19 hB18
  go_wp2_with fail
  refine (HE0.out _).mono ?_
  rintro e w20 ⟨rfl, rfl⟩
  go_wp2_with fail
  go_ret
  exact ⟨rfl, hB19⟩
end Go.Proofs.YtedhjjlnionckaaDoor
