/-
  Stage 3: arguments opened: digests, integers, peaks; the tables that the rows list.
-/
import Derived.Test.YtlgokfgiemaklaaDoorMkb
import Derived.Test.YtlgokfgiemaklaaDoorOpa
import Derived.Test.YtlgokfgiemaklaaDoorTabs
import Derived.ChangeSame
namespace Go.Proofs.YtlgokfgiemaklaaDoor
set_option linter.unusedVariables false
set_option linter.unusedSimpArgs false
open Go.ChangeShapes Go.WideShapes Go.ChangeAt Go.RowKit

theorem slA_dv {w : World} {A : Option Addr} {n c : Nat} {l : List (List UInt8)} (h : SlA 16 w A n c l) : DV w A n c l := ⟨h.len, h.rds, h.cap, h.max, h.nil, h.size⟩
/-- A slice of integers that came in. -/
structure SlN (w : World) (A : Option Addr) (n c : Nat) (l : List Int) : Prop where
  len : n = l.length
  cap : n ≤ c
  max : c ≤ maxLen
  nil : A = none → c = 0
  reach : n ≤ 140737488351232
  rds : Rds w w.heap.size A (l.map iv)
  fits : ∀ p ∈ l, Wm.Fits p
theorem slN_iv {w : World} {A : Option Addr} {n c : Nat} {l : List Int} (h : SlN w A n c l) : IV w A n c l := ⟨h.len, h.rds, h.cap, h.nil, h.fits⟩
section
variable {H : Type} {enc : TypeId × Value → H} {P : Program} {w : World} {base : Nat} {spare : Nat → Bool} {held : Bool}
theorem open_slN {t e : TypeId} {fuel : Nat} {A : Option Addr} {n c : Nat} {x : DataW H × List MemPlace} (ht : P.underlying t = some (.slice e)) (he : P.underlying e = some (.int .i64)) (hce : P.cellsOf e = 1)
    (h : DataW.trod enc P w base spare held fuel t (Value.slice A n c).cells.toList = some x) (hz : n ≤ 140737488351232) : ∃ l, SlN w A n c l := by
  rcases open_ints ht he hce h with ⟨hcs, _⟩ | ⟨ad, len, cap, zs, hcs, _, hl, hm, hzl, _, hcell, hwz⟩
  · simp [Value.cells] at hcs
    obtain ⟨rfl, rfl, rfl⟩ := hcs
    exact ⟨[], rfl, Nat.le_refl _, Nat.zero_le _, fun _ => rfl, hz, Rds.empty, by simp⟩
  · simp [Value.cells] at hcs
    obtain ⟨rfl, rfl, rfl⟩ := hcs
    have hlen : n ≤ zs.length := by rw [hzl]; split <;> omega
    have hll : (zs.take n).length = n := by simp; omega
    refine ⟨zs.take n, hll.symm, hl, hm, (fun h => by cases h), hz, rds_cells (len := n) _ (by simp; omega) ?_, fun y hy => bounds_i64 (hwz y (List.mem_of_mem_take hy))⟩
    intro i u hu
    have hi : i < n := by
      rcases Nat.lt_or_ge i n with hi | hi
      · exact hi
      · rw [List.getElem?_eq_none (by simp; omega)] at hu; cases hu
    rw [hcell i (by omega), ← hu]
    simp [hi, List.getD_eq_getElem?_getD, show i < zs.length from by omega, iv]
theorem open_bytesN (N : Nat) {r : Reach} {b0 : Nat} {t e : TypeId} {v : Value} {d : DataW H} {ps : List MemPlace}
    (ht : P.underlying t = some (.array N e)) (he : P.underlying e = some (.int .u8)) (hce : P.cellsOf e = 1) (hct : P.cellsOf t = N) (hval : Value.okWide P w r b0 t v) (hd : DataW.Trod enc P w base spare held t v d ps) :
    ∃ l : List UInt8, l.length = N ∧ v = av l := by
  unfold Value.okWide at hval
  rw [ht] at hval
  obtain ⟨cs, rfl, hs, _⟩ := hval
  obtain ⟨fuel, hf⟩ := hd
  obtain ⟨ys, m, rfl, hx, hl, hys, hat⟩ := DataW.trod_array ht hf
  rw [hct] at hs
  obtain ⟨cl, hcl⟩ : ∃ l, l = cs.toList := ⟨_, rfl⟩
  have hll : cl.length = N := by rw [hcl, Array.length_toList, hs]
  have hcc : (Value.agg cs).cells.toList = cl := by rw [hcl]; rfl
  rw [hcc] at hat
  have hbyte : ∀ j, j < N → ∃ q : Int, cl[j]? = some (.int .u8 q) ∧ 0 ≤ q ∧ q ≤ 255 := by
    intro j hj
    have h1 := hat j hj
    rw [hce] at h1
    have hys' : ys[j]? = some (ys[j]'(by omega)) := List.getElem?_eq_getElem (by omega)
    rw [hys', Nat.mul_one, List.drop_eq_getElem_cons (by omega)] at h1
    have h2 : DataW.trod enc P w base spare held m e [cl[j]'(by omega)] = some (ys[j]'(by omega)) := h1
    obtain ⟨q, hq, _, hwf⟩ := DataW.trod_int he h2
    have hq' : cl[j]'(by omega) = .int .u8 q := by injection hq
    exact ⟨q, by rw [List.getElem?_eq_getElem (by omega), hq'], bounds_u8 hwf⟩
  refine ⟨cl.map fun v => match v with | .int _ q => UInt8.ofNat q.toNat | _ => 0, by rw [List.length_map]; exact hll, ?_⟩
  unfold av
  congr 1
  apply Array.ext'
  rw [← hcl]
  apply List.ext_getElem?
  intro j
  by_cases hj : j < N
  · obtain ⟨q, hq, h0, h1⟩ := hbyte j hj
    rw [hq]
    simp only [List.getElem?_map, hq, Option.map_some]
    rw [bv_ofNat (by omega)]
    congr 2
    omega
  · rw [List.getElem?_eq_none (by omega), List.getElem?_eq_none (by simp; omega)]
theorem open_peaks {r : Reach} {b0 : Nat} {t s e b : TypeId} {f0 f1 : Field} {v : Value} {d : DataW H} {ps : List MemPlace}
    (ht : P.underlying t = some (.struct #[f0, f1])) (h0 : f0.offset = 0) (h1 : f1.offset = 1) (hi : P.underlying f0.type = some (.int .i64)) (hs : f1.type = s) (hss : P.underlying s = some (.slice e)) (he : P.underlying e = some (.array 16 b)) (hb : P.underlying b = some (.int .u8))
    (hci : P.cellsOf f0.type = 1) (hcs : P.cellsOf s = 1) (hce : P.cellsOf e = 16) (hcb : P.cellsOf b = 1) (hct : P.cellsOf t = 2) (hval : Value.okWide P w r b0 t v) (hd : DataW.Trod enc P w base spare held t v d ps) :
    ∃ (z : Int) (A : Option Addr) (n c : Nat) (l : List (List UInt8)), v = pkv z A n c ∧ Wm.Fits z ∧ DV w A n c l := by
  subst hs
  unfold Value.okWide at hval
  rw [ht] at hval
  obtain ⟨cs, rfl, hsz, _⟩ := hval
  obtain ⟨fuel, hf⟩ := hd
  obtain ⟨xs, m, rfl, hx, hl, hn, hat⟩ := DataW.trod_struct ht hf
  rw [hct] at hsz
  obtain ⟨l, hcl⟩ : ∃ l, l = cs.toList := ⟨_, rfl⟩
  have hll : l.length = 2 := by rw [hcl, Array.length_toList, hsz]
  match l, hll with
  | [u, q], _ =>
    have hcs2 : cs = #[u, q] := by apply Array.ext'; rw [← hcl]
    subst hcs2
    have a0 := hat 0 f0 rfl
    have a1 := hat 1 f1 rfl
    rw [h0, hci] at a0
    rw [h1, hcs] at a1
    match xs, hn with
    | [x, y], _ =>
      obtain ⟨z, k0, _, w0⟩ := DataW.trod_int hi (show DataW.trod enc P w base spare held m f0.type [u] = some x from a0)
      have e0 : u = .int .i64 z := by simpa using k0
      have a1' : DataW.trod enc P w base spare held m f1.type [q] = some y := a1
      have hq : ∃ A n c, q = .slice A n c := by
        rcases Go.Deep.open_slice hss a1' with ⟨hcs, _⟩ | ⟨ad, len, cap, m2, k, D, Pl, hcs, _, hl2, hm, hmm, _, hel⟩
        · exact ⟨none, 0, 0, by simpa using hcs⟩
        · exact ⟨some ad, len, cap, by simpa using hcs⟩
      obtain ⟨A, n, c, rfl⟩ := hq
      obtain ⟨l, g1, g2, g3, g4, g5, g6⟩ := open_slA0 16 hss he hb hce hcb a1'
      exact ⟨z, A, n, c, l, by rw [e0]; rfl, bounds_i64 w0, g1, g5, g2, g3, g4, g6⟩
end
theorem deb_data {H : Type} : (Rows.laid_math_bits_deBruijn64tab : DataW H) = Lib.tabData .u8 (Lib.deBruijn64tab.map fun n => ((n : Nat) : Int)) := rfl
theorem tabU_of {w : World} (h : Lib.VarReads Tryd.prog w "math/bits.deBruijn64tab" Rows.laid_math_bits_deBruijn64tab) : TabU 1 Lib.deBruijn64tab w := by
  obtain ⟨g, t, cs, fuel, p, hg, ht, hv, hd⟩ := h
  obtain rfl := Option.some.inj ((show Tryd.prog.globalNamed "math/bits.deBruijn64tab" = some 1 by kernel_rfl).symm.trans hg)
  obtain rfl := Option.some.inj ((show (Tryd.prog.globals[1]?).map (·.type) = some 101 by kernel_rfl).symm.trans ht)
  rw [deb_data] at hd
  have hcs := Lib.cells_of_tab Tryd.underlying101 Tryd.underlying5 (by kernel_rfl) (by kernel_rfl) hd
  intro j hj
  have h := World.var?_cell hg hv j
  rw [h]
  have : cs[j]? = cs.toList[j]? := by simp
  rw [this, hcs, List.map_map, List.getElem?_map, List.getD_eq_getElem?_getD, List.getElem?_eq_getElem hj]
  rfl
theorem u64_nat {x : Int} (h : (Lit.int .u64 x).wf = true) : ∃ n : Nat, x = (n : Int) ∧ n < 18446744073709551616 := by
  have hx : 0 ≤ x ∧ x ≤ 18446744073709551615 := by simpa [Lit.wf, IntKind.min, IntKind.max, IntKind.signed, IntKind.bits] using h
  exact ⟨x.toNat, by omega, by omega⟩
end Go.Proofs.YtlgokfgiemaklaaDoor
