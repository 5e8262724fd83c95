/-
  Contracts of stage 5: solution.
-/
import Derived.Test.YtfbdhcpclccikaaDoorMx
namespace Go.Proofs.YtfbdhcpclccikaaDoor
set_option linter.unusedVariables false
set_option linter.unusedSimpArgs false
open Go.RowKit

/-- In the row x the elements in the pivots' columns are set to those of a column. -/
def setP (Mr : List (List UInt8)) (col : Nat) : List Nat → Nat → List UInt8 → List UInt8
  | [], _, x => x
  | p :: ps, i, x => setP Mr col ps (i + 1) (x.set p (el Mr i col))
theorem setP_len (Mr : List (List UInt8)) (col : Nat) : ∀ (ps : List Nat) (i : Nat) (x : List UInt8), (setP Mr col ps i x).length = x.length
  | [], _, _ => rfl
  | p :: ps, i, x => by unfold setP; rw [setP_len Mr col ps]; simp
/-- Has a reduced system no solution? -/
def badS (S : List (List UInt8)) (n : Nat) : Bool := ((red S n).1.drop (red S n).2.length).any fun r => r.getD n 0 != 0
/-- The solution of a system whose unknowns without a pivot are 0. -/
def solX (S : List (List UInt8)) (n : Nat) : List UInt8 := setP (red S n).1 n (red S n).2 0 (List.replicate n 0)
/-- What solution ends with. -/
def SolEnd (w : World) (base g : Nat) (bs : List Nat) (S : List (List UInt8)) (n : Nat) (e : Ending) (w' : World) : Prop :=
  ∃ bs', bs'.Perm bs ∧ Om w' base g bs' (red S n).1 [] ∧ Chg (g :: bs) w w' ∧
    ((badS S n = true ∧ e = .returned (.tuple #[.slice none 0 0, .slice none 0 0, .int .i64 8])) ∨
     (badS S n = false ∧ ∃ xb vp, e = .returned (.tuple #[.slice (some ⟨xb, 0, none⟩) n n, vp, .int .i64 0]) ∧ OwnP w' w.heap.size vp (red S n).2 ∧ w.heap.size ≤ xb ∧ Blk w' xb ((solX S n).map bv) 5 ∧ vp.ownBlock ≠ some xb))

set_option maxRecDepth 100000 in
set_option maxHeartbeats 4000000 in
theorem solution_any (S : List (List UInt8)) (bs : List Nat) (g base n : Nat) (w : World) (hO : Om w base g bs S []) (hrect : Rect S (n + 1)) (hn : n ≤ 10000) (hm : S.length ≤ 100000) (ht : PTab 0 w) (hg0 : 0 < base) :
    Calls Tryd.prog 78 #[.slice (some ⟨g, 0, none⟩) S.length S.length, .int .i64 n] w (SolEnd w base g bs S n) := by
  have RED := Lib.hid (reduce_any S bs g base n (n + 1) w hO hrect (Nat.le_succ _) (by omega) hm ht hg0)
  have hpl : (red S n).2.length ≤ S.length := red_piv_le hrect n
  have hrl := Lib.hid (red_len hrect n)
  have hrr := Lib.hid (red_rect hrect n)
  have hplt := Lib.hid (red_piv_lt hrect n)
  have hpln := Lib.hid (red_piv_le_n hrect n)
  obtain ⟨Mr, hMr⟩ : ∃ M, M = (red S n).1 := ⟨_, rfl⟩
  obtain ⟨piv, hpiv⟩ : ∃ p, p = (red S n).2 := ⟨_, rfl⟩
  have hbad : Hid (badS S n = (Mr.drop piv.length).any fun r => r.getD n 0 != 0) := by show _ = _; rw [hMr, hpiv]; rfl
  have hsol : Hid (solX S n = setP Mr n piv 0 (List.replicate n 0)) := by show _ = _; rw [hMr, hpiv]; rfl
  have hEnd : Hid (∀ e w' bs', bs'.Perm bs → Om w' base g bs' Mr [] → Chg (g :: bs) w w' → ((badS S n = true ∧ e = .returned (.tuple #[.slice none 0 0, .slice none 0 0, .int .i64 8])) ∨
     (badS S n = false ∧ ∃ xb vp, e = .returned (.tuple #[.slice (some ⟨xb, 0, none⟩) n n, vp, .int .i64 0]) ∧ OwnP w' w.heap.size vp piv ∧ w.heap.size ≤ xb ∧ Blk w' xb ((solX S n).map bv) 5 ∧ vp.ownBlock ≠ some xb)) → SolEnd w base g bs S n e w') := fun e w' bs' h1 h2 h3 h4 => by
    rw [hMr] at h2
    rw [hpiv] at h4
    exact ⟨bs', h1, h2, h3, h4⟩
  rw [← hpiv] at hpl hplt hpln
  rw [← hMr] at hrl hrr
  obtain ⟨rows, hrows⟩ : ∃ r, r = S.length := ⟨_, rfl⟩
  rw [← hrows] at RED hrl hpl hm ⊢
  have RED2 : Hid (Calls Tryd.prog 71 #[.slice (some ⟨g, 0, none⟩) rows rows, .int .i64 n] w fun e w' => ∃ vp bs', e = .returned vp ∧ OwnP w' w.heap.size vp piv ∧ Om w' base g bs' Mr [] ∧ bs'.Perm bs ∧ Chg (g :: bs) w w') := by
    have h := RED.out
    unfold RedEnd at h
    rw [← hpiv, ← hMr] at h
    exact h
  have hgs : Hid (∀ x ∈ g :: bs, base ≤ x ∧ x < w.heap.size) := fun x hx => by
    rcases List.mem_cons.1 hx with rfl | hx
    · exact ⟨hO.low, hO.out.lt⟩
    · obtain ⟨i, hi⟩ := List.getElem?_of_mem hx
      have hil := (List.getElem?_eq_some_iff.1 hi).1
      exact ⟨hO.lows x hx, (hO.row i x _ hi (List.getElem?_eq_getElem (by rw [← hO.len]; exact hil))).lt⟩
  generalize SolEnd w base g bs S n = SE at hEnd ⊢
  generalize badS S n = bad at hbad hEnd
  generalize solX S n = xs at hsol hEnd
  clear hMr hpiv hrows RED hO hrect ht hg0
  go_enter Tryd.func78, Tryd.ntmps78
  go_wp2_with fail
  refine RED2.out.mono ?_
  rintro e w2 ⟨vp, bs2, rfl, hv20, hO20, hp20, hC20⟩
  have hv2 := Lib.hid hv20
  have hO2 := Lib.hid hO20
  have hp2 := Lib.hid hp20
  have hC2 := Lib.hid hC20
  obtain ⟨Ap, cp, hvp, _, _, hnp, hrp0⟩ := own_form hv20
  have hrp := Lib.hid hrp0
  obtain ⟨pl, hpl0⟩ : ∃ k, k = piv.length := ⟨_, rfl⟩
  have hpl' := Lib.hid hpl0
  rw [← hpl0] at hvp hpl
  subst hvp
  have t1 : (pl : Int) ≤ (rows : Int) := by omega
  have t2 : 0 ≤ (pl : Int) := by omega
  clear hv20 hO20 hp20 hC20 hrp0 hpl0
  rcases (show pl = rows ∨ ¬ rows = pl by omega) with hsp | hsp
  · subst hsp
    go_wp2_with fail
    go_loopw [5, 19] (fun vp i wr => ∃ l : Nat, vp = .slice Ap pl cp ∧ l ≤ pl - pl ∧ i = .int .i64 l ∧ Hid (((Mr.drop pl).take l).any (fun r => r.getD n 0 != 0) = false) ∧ w2 = wr) (fun _ i _ => (pl - pl) - (intOf i).toNat)
    case atStart => exact ⟨0, rfl, by omega, rfl, rfl, rfl⟩
    case round =>
      obtain ⟨l, rfl, hl, rfl, hno, rfl⟩ := hrel
      by_cases hll : l < pl - pl
      · exfalso; omega
      · have tl : ¬ (l : Int) < ((pl - pl : Nat) : Int) := by omega
        have hbf : bad = false := by
          rw [hbad.out]
          have h := hno.out
          rw [List.take_of_length_le (by rw [List.length_drop, hrl.out]; omega)] at h
          rw [← hpl'.out]
          exact h
        have hbf' := Lib.hid hbf
        clear hbf hno
        obtain ⟨W3, hW3⟩ : ∃ W3, W3 = w2.alloc (.cells (madeCells #[.int .u8 0] n) 5) := ⟨_, rfl⟩
        have hN3 : Hid (Nu w2 W3) := by show Nu _ _; rw [hW3]; exact (Below.refl _ _).alloc (Nat.le_refl _) _
        have hZ3 : Hid (Blk W3 w2.heap.size ((List.replicate n (0 : UInt8)).map bv) 5) := by
          show Blk _ _ _ _
          rw [hW3, made_zeros, zeros_row]
          exact Blk.new _ _ _
        have hmk := run_make_row' (P := Tryd.prog) 43 5 (.int .u8 0) 1 Tryd.underlying43 infoByte rfl .i64 .i64 n (by omega) (by omega) w2
        rw [← hW3] at hmk
        clear hW3
        go_wp2_with fail
        go_loopw [33] (fun v wr => ∃ (q : Nat) (xq : List UInt8), q ≤ pl ∧ v = .int .i64 q ∧ Only w2.heap.size W3 wr ∧ Blk wr w2.heap.size (xq.map bv) 5 ∧ xq.length = n ∧ Hid (setP Mr n (piv.drop q) q xq = xs)) (fun v _ => pl - (intOf v).toNat)
        case atStart => exact ⟨0, List.replicate n 0, by omega, rfl, ⟨rfl, rfl, rfl, rfl, fun _ _ => rfl⟩, hZ3.out, by simp, by show _ = _; rw [List.drop_zero]; exact hsol.out.symm⟩
        case round =>
          obtain ⟨q, xq, hq, rfl, hOn0, hK0, hxl0, hst⟩ := hrel
          have hOn := Lib.hid hOn0
          have hK := Lib.hid hK0
          have hxl := Lib.hid hxl0
          clear hOn0 hK0 hxl0
          have hO4 := Lib.hid (show Om wr base g bs2 Mr [] from (by
            have h := hO2.out.keep hN3.out
            exact ⟨h.len, h.out.only hOn.out (by have := hO2.out.out.lt; omega), fun i b m hb hm => (h.row i b m hb hm).only hOn.out (by have := (hO2.out.row i b m hb hm).lt; omega), h.low, h.lows, h.ne, h.nodup, h.caps⟩))
          by_cases hlq : q < pl
          · have tq : (q : Int) < (pl : Int) := by omega
            have tq0 : 0 ≤ (q : Int) := by omega
            have tqr : (q : Int) < (pl : Int) := by omega
            have tn0 : 0 ≤ (n : Int) := by omega
            obtain ⟨p, hp⟩ : ∃ p, piv[q]? = some p := ⟨_, List.getElem?_eq_getElem (by have := hpl'.out; omega)⟩
            have hpn := hplt.out p (List.mem_of_getElem? hp)
            obtain ⟨ap, rfl, hab, hcp0⟩ := hrp.out.look (k := q) (u := pv p) (by rw [List.getElem?_map, hp]; rfl)
            have hcp : wr.cell? (ap.add q) = some (.int .i64 p) := by
              have e1 : wr.cell? (ap.add q) = W3.cell? (ap.add q) := (hOn.out.below (Nat.le_refl _)).cell (by rw [add_block]; exact hab)
              exact e1.trans (((show Below w2.heap.size w2 W3 from hN3.out).cell (by rw [add_block]; exact hab)).trans hcp0)
            obtain ⟨m, hm0⟩ : ∃ m, Mr[q]? = some m := ⟨_, List.getElem?_eq_getElem (by have := hrl.out; omega)⟩
            have hml : m.length = n + 1 := hrr.out.at hm0
            obtain ⟨b, hb, _, _, hcb, hkb⟩ := hO4.out.at hm0
            obtain ⟨x, hx0⟩ : ∃ x, m[n]? = some x := ⟨_, List.getElem?_eq_getElem (by omega)⟩
            have hxe : Hid (el Mr q n = x) := el_of hm0 hx0
            have hcx : wr.cell? ⟨b, n, none⟩ = some (bv x) := hkb.cell (by rw [List.getElem?_map, hx0]; rfl)
            rw [hml] at hcb
            have tp : (p : Int) < (n : Int) := by omega
            have tp0 : 0 ≤ (p : Int) := by omega
            have tnn : (n : Int) < ((n + 1 : Nat) : Int) := by omega
            have hfit : Hid (p + 1 ≤ (xq.map bv).length) := by show _ ≤ _; rw [List.length_map, hxl.out]; exact hpn
            have hnx : Hid (setP Mr n (piv.drop (q + 1)) (q + 1) (xq.set p x) = xs) := by
              show _ = _
              rw [← hst.out, List.drop_eq_getElem_cons (show q < piv.length by have := hpl'.out; omega)]
              conv => rhs; unfold setP
              rw [hxe.out, show piv[q]'(by have := hpl'.out; omega) = p from (List.getElem?_eq_some_iff.1 hp).2]
            unfold bv at hcx
            clear hcp0 hm0 hkb hx0 hp hab hml
            go_wp2_with (refine wpList_blk_store rfl 5 _ _ rfl p (bv x) rfl rfl hK.out size_u8 hfit.out (one_u8b x) ?_; intro w5 hw5 ho5)
            have hK5 : Hid (Blk w5 w2.heap.size ((xq.set p x).map bv) 5) := by
              show Blk _ _ _ _
              have h := hw5.out
              rw [show (bv x).cells.toList = [bv x] from rfl, splice_set _ _ _ hfit.out, ← List.map_set] at h
              exact h
            have hOn5 := Lib.hid (hOn.out.trans ho5)
            clear hw5 ho5
            go_wp2_with fail
            go_roundw
            case rel => exact ⟨q + 1, xq.set p x, by omega, by go_num, hOn5.out, hK5.out, by rw [List.length_set]; exact hxl.out, hnx⟩
            case measure => simp [intOf]; omega
          · have tq : ¬ (q : Int) < (pl : Int) := by omega
            have hxq : Hid (xq = xs) := by
              show _ = _
              rw [← hst.out, List.drop_eq_nil_of_le (by have := hpl'.out; omega)]
              rfl
            have hfin : Hid (SE (.returned (.tuple #[.slice (some ⟨w2.heap.size, 0, none⟩) n n, .slice Ap pl cp, .int .i64 0])) wr) := by
              refine hEnd.out _ _ bs2 hp2.out hO4.out ?_ (.inr ⟨hbf'.out, w2.heap.size, _, rfl, ?_, hC2.out.size, by rw [← hxq.out]; exact hK.out, ?_⟩)
              · exact (hC2.out.trans (Chg.of hN3.out)).on (hOn.out.below hC2.out.size)
              · refine (hv2.out.kept (fun b _ hlt => hN3.out.block b hlt)).kept (fun b hb _ => hOn.out.block b ?_)
                have := (World.ownsRow.lt hv2.out b hb).2
                omega
              · intro hh
                have := (World.ownsRow.lt hv2.out _ hh).2
                omega
            go_wp2_with fail
            go_ret3
            exact hfin.out
  · have hsp2 : ¬ (rows : Int) = (pl : Int) := by omega
    go_wp2_with fail
    go_loopw [5, 19] (fun vp i wr => ∃ l : Nat, vp = .slice Ap pl cp ∧ l ≤ rows - pl ∧ i = .int .i64 l ∧ Hid (((Mr.drop pl).take l).any (fun r => r.getD n 0 != 0) = false) ∧ w2 = wr) (fun _ i _ => (rows - pl) - (intOf i).toNat)
    case atStart => exact ⟨0, rfl, by omega, rfl, rfl, rfl⟩
    case round =>
      obtain ⟨l, rfl, hl, rfl, hno, rfl⟩ := hrel
      by_cases hll : l < rows - pl
      · have tl : (l : Int) < ((rows - pl : Nat) : Int) := by omega
        have tl0 : 0 ≤ (l : Int) := by omega
        obtain ⟨m, hm0⟩ : ∃ m, Mr[pl + l]? = some m := ⟨_, List.getElem?_eq_getElem (by have := hrl.out; omega)⟩
        have hml : m.length = n + 1 := hrr.out.at hm0
        obtain ⟨b, _, _, _, hcb, hkb⟩ := hO2.out.at hm0
        obtain ⟨x, hx0⟩ : ∃ x, m[n]? = some x := ⟨_, List.getElem?_eq_getElem (by omega)⟩
        have hxe : Hid (m.getD n 0 = x) := by show _ = _; rw [List.getD_eq_getElem?_getD, hx0]; rfl
        have hcx : w2.cell? ⟨b, n, none⟩ = some (bv x) := hkb.cell (by rw [List.getElem?_map, hx0]; rfl)
        rw [hml] at hcb
        have tn0 : 0 ≤ (n : Int) := by omega
        have tnn : (n : Int) < ((n + 1 : Nat) : Int) := by omega
        have htk : Hid (((Mr.drop pl).take (l + 1)) = ((Mr.drop pl).take l) ++ [m]) := by
          show _ = _
          rw [List.take_add_one, List.getElem?_drop, hm0]
          rfl
        have hmm : Hid (m ∈ Mr.drop pl) := List.mem_of_getElem? (i := l) (by rw [List.getElem?_drop]; exact hm0)
        unfold bv at hcx
        clear hm0 hkb hx0 hml
        by_cases hxz : x = 0
        · have tx : (((x.toNat : Nat) : Int) != 0) = false := by rw [hxz]; rfl
          have hnn : Hid (((Mr.drop pl).take (l + 1)).any (fun r => r.getD n 0 != 0) = false) := by
            show _ = _
            rw [htk.out, List.any_append, hno.out, List.any_cons, hxe.out, hxz]
            rfl
          clear hxz
          go_wp2_with fail
          go_roundw
          case rel => exact ⟨l + 1, rfl, by omega, by go_num, hnn, trivial⟩
          case measure => simp [intOf]; omega
        · have tx : (((x.toNat : Nat) : Int) != 0) = true := by
            simp only [bne_iff_ne, ne_eq]
            intro hh
            exact hxz (UInt8.toNat_inj.1 (by rw [show (0 : UInt8).toNat = 0 from rfl]; omega))
          have hfin : Hid (SE (.returned (.tuple #[.slice none 0 0, .slice none 0 0, .int .i64 8])) w2) := by
            refine hEnd.out _ _ bs2 hp2.out hO2.out hC2.out (.inl ⟨?_, rfl⟩)
            rw [hbad.out, ← hpl'.out]
            exact List.any_eq_true.2 ⟨m, hmm.out, by rw [hxe.out]; simpa using hxz⟩
          clear hxz
          go_wp2_with fail
          go_ret3
          exact hfin.out
      · have tl : ¬ (l : Int) < ((rows - pl : Nat) : Int) := by omega
        have hbf : bad = false := by
          rw [hbad.out]
          have h := hno.out
          rw [List.take_of_length_le (by rw [List.length_drop, hrl.out]; omega)] at h
          rw [← hpl'.out]
          exact h
        have hbf' := Lib.hid hbf
        clear hbf hno
        obtain ⟨W3, hW3⟩ : ∃ W3, W3 = w2.alloc (.cells (madeCells #[.int .u8 0] n) 5) := ⟨_, rfl⟩
        have hN3 : Hid (Nu w2 W3) := by show Nu _ _; rw [hW3]; exact (Below.refl _ _).alloc (Nat.le_refl _) _
        have hZ3 : Hid (Blk W3 w2.heap.size ((List.replicate n (0 : UInt8)).map bv) 5) := by
          show Blk _ _ _ _
          rw [hW3, made_zeros, zeros_row]
          exact Blk.new _ _ _
        have hmk := run_make_row' (P := Tryd.prog) 43 5 (.int .u8 0) 1 Tryd.underlying43 infoByte rfl .i64 .i64 n (by omega) (by omega) w2
        rw [← hW3] at hmk
        clear hW3
        go_wp2_with fail
        go_loopw [33] (fun v wr => ∃ (q : Nat) (xq : List UInt8), q ≤ pl ∧ v = .int .i64 q ∧ Only w2.heap.size W3 wr ∧ Blk wr w2.heap.size (xq.map bv) 5 ∧ xq.length = n ∧ Hid (setP Mr n (piv.drop q) q xq = xs)) (fun v _ => pl - (intOf v).toNat)
        case atStart => exact ⟨0, List.replicate n 0, by omega, rfl, ⟨rfl, rfl, rfl, rfl, fun _ _ => rfl⟩, hZ3.out, by simp, by show _ = _; rw [List.drop_zero]; exact hsol.out.symm⟩
        case round =>
          obtain ⟨q, xq, hq, rfl, hOn0, hK0, hxl0, hst⟩ := hrel
          have hOn := Lib.hid hOn0
          have hK := Lib.hid hK0
          have hxl := Lib.hid hxl0
          clear hOn0 hK0 hxl0
          have hO4 := Lib.hid (show Om wr base g bs2 Mr [] from (by
            have h := hO2.out.keep hN3.out
            exact ⟨h.len, h.out.only hOn.out (by have := hO2.out.out.lt; omega), fun i b m hb hm => (h.row i b m hb hm).only hOn.out (by have := (hO2.out.row i b m hb hm).lt; omega), h.low, h.lows, h.ne, h.nodup, h.caps⟩))
          by_cases hlq : q < pl
          · have tq : (q : Int) < (pl : Int) := by omega
            have tq0 : 0 ≤ (q : Int) := by omega
            have tqr : (q : Int) < (rows : Int) := by omega
            have tn0 : 0 ≤ (n : Int) := by omega
            obtain ⟨p, hp⟩ : ∃ p, piv[q]? = some p := ⟨_, List.getElem?_eq_getElem (by have := hpl'.out; omega)⟩
            have hpn := hplt.out p (List.mem_of_getElem? hp)
            obtain ⟨ap, rfl, hab, hcp0⟩ := hrp.out.look (k := q) (u := pv p) (by rw [List.getElem?_map, hp]; rfl)
            have hcp : wr.cell? (ap.add q) = some (.int .i64 p) := by
              have e1 : wr.cell? (ap.add q) = W3.cell? (ap.add q) := (hOn.out.below (Nat.le_refl _)).cell (by rw [add_block]; exact hab)
              exact e1.trans (((show Below w2.heap.size w2 W3 from hN3.out).cell (by rw [add_block]; exact hab)).trans hcp0)
            obtain ⟨m, hm0⟩ : ∃ m, Mr[q]? = some m := ⟨_, List.getElem?_eq_getElem (by have := hrl.out; omega)⟩
            have hml : m.length = n + 1 := hrr.out.at hm0
            obtain ⟨b, hb, _, _, hcb, hkb⟩ := hO4.out.at hm0
            obtain ⟨x, hx0⟩ : ∃ x, m[n]? = some x := ⟨_, List.getElem?_eq_getElem (by omega)⟩
            have hxe : Hid (el Mr q n = x) := el_of hm0 hx0
            have hcx : wr.cell? ⟨b, n, none⟩ = some (bv x) := hkb.cell (by rw [List.getElem?_map, hx0]; rfl)
            rw [hml] at hcb
            have tp : (p : Int) < (n : Int) := by omega
            have tp0 : 0 ≤ (p : Int) := by omega
            have tnn : (n : Int) < ((n + 1 : Nat) : Int) := by omega
            have hfit : Hid (p + 1 ≤ (xq.map bv).length) := by show _ ≤ _; rw [List.length_map, hxl.out]; exact hpn
            have hnx : Hid (setP Mr n (piv.drop (q + 1)) (q + 1) (xq.set p x) = xs) := by
              show _ = _
              rw [← hst.out, List.drop_eq_getElem_cons (show q < piv.length by have := hpl'.out; omega)]
              conv => rhs; unfold setP
              rw [hxe.out, show piv[q]'(by have := hpl'.out; omega) = p from (List.getElem?_eq_some_iff.1 hp).2]
            unfold bv at hcx
            clear hcp0 hm0 hkb hx0 hp hab hml
            go_wp2_with (refine wpList_blk_store rfl 5 _ _ rfl p (bv x) rfl rfl hK.out size_u8 hfit.out (one_u8b x) ?_; intro w5 hw5 ho5)
            have hK5 : Hid (Blk w5 w2.heap.size ((xq.set p x).map bv) 5) := by
              show Blk _ _ _ _
              have h := hw5.out
              rw [show (bv x).cells.toList = [bv x] from rfl, splice_set _ _ _ hfit.out, ← List.map_set] at h
              exact h
            have hOn5 := Lib.hid (hOn.out.trans ho5)
            clear hw5 ho5
            go_wp2_with fail
            go_roundw
            case rel => exact ⟨q + 1, xq.set p x, by omega, by go_num, hOn5.out, hK5.out, by rw [List.length_set]; exact hxl.out, hnx⟩
            case measure => simp [intOf]; omega
          · have tq : ¬ (q : Int) < (pl : Int) := by omega
            have hxq : Hid (xq = xs) := by
              show _ = _
              rw [← hst.out, List.drop_eq_nil_of_le (by have := hpl'.out; omega)]
              rfl
            have hfin : Hid (SE (.returned (.tuple #[.slice (some ⟨w2.heap.size, 0, none⟩) n n, .slice Ap pl cp, .int .i64 0])) wr) := by
              refine hEnd.out _ _ bs2 hp2.out hO4.out ?_ (.inr ⟨hbf'.out, w2.heap.size, _, rfl, ?_, hC2.out.size, by rw [← hxq.out]; exact hK.out, ?_⟩)
              · exact (hC2.out.trans (Chg.of hN3.out)).on (hOn.out.below hC2.out.size)
              · refine (hv2.out.kept (fun b _ hlt => hN3.out.block b hlt)).kept (fun b hb _ => hOn.out.block b ?_)
                have := (World.ownsRow.lt hv2.out b hb).2
                omega
              · intro hh
                have := (World.ownsRow.lt hv2.out _ hh).2
                omega
            go_wp2_with fail
            go_ret3
            exact hfin.out
end Go.Proofs.YtfbdhcpclccikaaDoor
