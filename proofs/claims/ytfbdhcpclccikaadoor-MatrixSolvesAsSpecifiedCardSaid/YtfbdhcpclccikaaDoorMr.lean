/-
  Contracts of stage 5: reduce.
-/
import Derived.Test.YtfbdhcpclccikaaDoorMs
import Derived.WalkMore
import Derived.Test.YtfbdhcpclccikaaDoorRws
import Derived.Deep.CutRange
namespace Go.Proofs.YtfbdhcpclccikaaDoor
set_option linter.unusedVariables false
set_option linter.unusedSimpArgs false
open Go.RowKit

def pv (p : Nat) : Value := .int .i64 (p : Int)
theorem infoInt : (Tryd.prog.info? 3).map (fun i => (i.zero, i.size, i.bytes)) = some (some (.int .i64 0), 1, 8) := by kernel_rfl
/-- The pivots are a row of the call's own. -/
def OwnP (w : World) (base : Nat) (v : Value) (l : List Nat) : Prop := w.ownsRow base 3 1 v l.length (l.map pv)
theorem ownP_nil (w : World) (base : Nat) : OwnP w base (.slice none 0 0) [] := World.ownsRow_nil w base _ _
theorem OwnP.kept {w w' : World} {base : Nat} {v : Value} {l : List Nat} (h : OwnP w base v l) (hb : ∀ b, v.ownBlock = some b → b < w.heap.size → w'.heap[b]? = w.heap[b]?) : OwnP w' base v l := by
  refine ⟨h.1, ?_⟩
  rcases h.2 with hn | ⟨g, cap, cur, hv, hg, hh, rest⟩
  · exact .inl hn
  · exact .inr ⟨g, cap, cur, hv, hg, by rw [hb g (by rw [hv]; rfl) (Array.getElem?_eq_some_iff.1 hh).1]; exact hh, rest⟩
theorem OwnP.chg {w w' : World} {base : Nat} {v : Value} {l : List Nat} {gs : List Nat} (h : OwnP w base v l) (hc : Chg gs w w') (hg : ∀ x ∈ gs, x < base) : OwnP w' base v l :=
  h.kept fun b hb hlt => hc.block b hlt (fun hh => by have := hg b hh; have := (World.ownsRow.lt h b hb).1; omega)
/-- 'l = append(l, x)', x a number, l the call's own. -/
theorem push_piv {w0 : World} {ops : Array Oper} {rest : List Oper} {o : Oper} {a : Act} {Q : Exit → Act → World → Prop} (hgd : o.guard = none) (s x : Operand)
    (ho : o.op = .call { callee := .builtin .append, args := #[s, x], argTypes := #[29, 29] })
    (base : Nat) (v : Value) (l : List Nat) (b : Nat) (u : Value) (hu : u = pv b) (hs : a.eval s = v) (hx : a.eval x = .slice (some ⟨w0.heap.size, 0, none⟩) 1 1)
    (hown : OwnP w0 base v l) (hlen : l.length ≤ 1000000) (hbase : base ≤ w0.heap.size)
    (h : ∀ v' w', OwnP w' base v' (l ++ [b]) → w0.grownBy w' v.ownBlock → wpList Tryd.prog ops Q rest (a.put o.dst v') w') :
    wpList Tryd.prog ops Q (o :: rest) a (w0.alloc (.cells #[u] 3)) := by
  subst hu
  obtain ⟨i0, hi, hz0, hz1, hz2⟩ := info_parts infoInt
  refine wpList_push hgd s x 29 ho base 3 i0 (.int .i64 0) 8 Tryd.underlying29 hi hz0 hz1 hz2 rfl v l.length (l.map pv) (pv b) hs hx rfl hown (by omega) (by unfold maxLen; omega) hbase ?_
  intro v' w' h1 h2
  exact h v' w' (by unfold OwnP; simpa using h1) h2.1

/-- What reduce ends with. -/
def RedEnd (w : World) (base g : Nat) (bs : List Nat) (M : List (List UInt8)) (n : Nat) (e : Ending) (w' : World) : Prop :=
  ∃ vp bs', e = .returned vp ∧ OwnP w' w.heap.size vp (red M n).2 ∧ Om w' base g bs' (red M n).1 [] ∧ bs'.Perm bs ∧ Chg (g :: bs) w w'

set_option maxRecDepth 100000 in
set_option maxHeartbeats 4000000 in
theorem reduce_any (M : List (List UInt8)) (bs : List Nat) (g base n c : Nat) (w : World) (hO : Om w base g bs M []) (hrect : Rect M c) (hn : n ≤ c) (hc : c ≤ 100000) (hm : M.length ≤ 100000) (ht : PTab 0 w) (hg0 : 0 < base) :
    Calls Tryd.prog 71 #[.slice (some ⟨g, 0, none⟩) M.length M.length, .int .i64 n] w (RedEnd w base g bs M n) := by
  have hgs : Hid (∀ x ∈ g :: bs, base ≤ x ∧ x < w.heap.size) := fun x hx => by
    rcases List.mem_cons.1 hx with rfl | hx
    · exact ⟨hO.low, hO.out.lt⟩
    · obtain ⟨i, hi⟩ := List.getElem?_of_mem hx
      have hil := (List.getElem?_eq_some_iff.1 hi).1
      exact ⟨hO.lows x hx, (hO.row i x _ hi (List.getElem?_eq_getElem (by rw [← hO.len]; exact hil))).lt⟩
  have hbw : Hid (base ≤ w.heap.size) := Nat.le_trans hO.low (Nat.le_of_lt hO.out.lt)
  have hTB : Hid (∀ W, Chg (g :: bs) w W → PTab 0 W) := fun W hC => ht.below (hC.below (fun x hx => (hgs.out x hx).1) hbw.out) hg0
  obtain ⟨rows, hrows⟩ : ∃ r, r = M.length := ⟨_, rfl⟩
  have hr' := Lib.hid hrows
  obtain ⟨res, hres⟩ : ∃ r, r = red M n := ⟨_, rfl⟩
  have hres' := Lib.hid hres
  have hO' := Lib.hid hO
  have hrect' := Lib.hid hrect
  have hmf : ∀ (fn : Fn) (first cap : Array Value) (w : World), (Instr.makeFunc fn first cap).run Tryd.prog w = .ok (.func fn first cap) w := fun _ _ _ _ => rfl
  have hEnd : Hid (∀ vp bs' W, OwnP W w.heap.size vp res.2 → Om W base g bs' res.1 [] → bs'.Perm bs → Chg (g :: bs) w W → RedEnd w base g bs M n (.returned vp) W) := fun vp bs' W h1 h2 h3 h4 => by
    rw [hres] at h1 h2
    exact ⟨vp, bs', rfl, h1, h2, h3, h4⟩
  rw [← hrows] at hm ⊢
  generalize RedEnd w base g bs M n = RE at hEnd ⊢
  clear hO hrect ht hg0 hrows hres
  go_enter Tryd.func71, Tryd.ntmps71
  go_wp2_with fail
  go_step3
  go_wp2_with fail
  go_step3
  go_wp2_with fail
  go_loopw [5, 16] (fun vp i wr => ∃ (k : Nat) (Mk : List (List UInt8)) (piv bs' : List Nat), k ≤ n ∧ i = .int .i64 k ∧ Chg (g :: bs) w wr ∧ Om wr base g bs' Mk [] ∧ bs'.Perm bs ∧ OwnP wr w.heap.size vp piv ∧ Rect Mk c ∧ Mk.length = rows ∧ piv.length ≤ k ∧ piv.length ≤ rows ∧ Hid (redGo Mk piv ((List.range n).drop k) = res)) (fun _ i _ => n - (intOf i).toNat)
  case atStart => exact ⟨0, M, [], bs, by omega, rfl, Chg.refl _ _, hO'.out, List.Perm.refl _, ownP_nil _ _, hrect'.out, hr'.out.symm, by simp, by simp, by show _ = _; rw [List.drop_zero]; exact hres'.out.symm⟩
  case round =>
    obtain ⟨k, Mk, piv, bs', hk, rfl, hC0, hO0, hP0, hV0, hR0, hl0, hp1, hp2, hres2⟩ := hrel
    have hC := Lib.hid hC0
    have hO := Lib.hid hO0
    have hP := Lib.hid hP0
    have hV := Lib.hid hV0
    have hR := Lib.hid hR0
    have hl := Lib.hid hl0
    clear hC0 hO0 hP0 hV0 hR0 hl0
    by_cases hlt : k < n
    · have t : (k : Int) < (n : Int) := by omega
      have hdrop : Hid ((List.range n).drop k = k :: (List.range n).drop (k + 1)) := by
        show _ = _
        rw [List.drop_eq_getElem_cons (by simpa using hlt)]
        simp
      obtain ⟨top, htop⟩ : ∃ t, t = piv.length := ⟨_, rfl⟩
      have htop' := Lib.hid htop
      rw [← htop] at hp1 hp2
      obtain ⟨Ap, cp, hvp, _, _, _, _⟩ := own_form hV.out
      subst hvp
      rw [← htop] at hV ⊢
      clear htop
      obtain ⟨wo, hwo⟩ : ∃ wo, wo = wr := ⟨_, rfl⟩
      subst hwo
      go_wp2_with fail
      go_loopw [5, 8] (fun vp v wr => ∃ i : Nat, vp = .slice Ap top cp ∧ top ≤ i ∧ i ≤ rows ∧ v = .int .i64 i ∧ Nu wo wr ∧ Hid (∀ q, top ≤ q → q < i → el Mk q k = 0)) (fun _ v _ => rows - (intOf v).toNat)
      case atStart => exact ⟨top, rfl, Nat.le_refl _, hp2, rfl, Nu.refl _, fun q h1 h2 => by omega⟩
      case round =>
        obtain ⟨i, rfl, hti, hir, rfl, hN0, hz⟩ := hrel
        have hN := Lib.hid hN0
        clear hN0
        by_cases hli : i < rows
        · have ti : (i : Int) < (rows : Int) := by omega
          have ti0 : 0 ≤ (i : Int) := by omega
          have tk0 : 0 ≤ (k : Int) := by omega
          have hO2 := Lib.hid (hO.out.keep hN.out)
          obtain ⟨mi, hmi0⟩ : ∃ m, Mk[i]? = some m := ⟨_, List.getElem?_eq_getElem (by have := hl.out; omega)⟩
          have hmi := Lib.hid hmi0
          have hmil : mi.length = c := hR.out.at hmi0
          obtain ⟨bi, hbi, _, _, hci, hki⟩ := hO2.out.at hmi0
          have hbi' := Lib.hid hbi
          obtain ⟨x, hx0⟩ : ∃ x, mi[k]? = some x := ⟨_, List.getElem?_eq_getElem (by omega)⟩
          have hxe : Hid (el Mk i k = x) := el_of hmi0 hx0
          have hcx : wr.cell? ⟨bi, k, none⟩ = some (bv x) := hki.cell (by rw [List.getElem?_map, hx0]; rfl)
          rw [hmil] at hci
          have tkc : (k : Int) < (c : Int) := by omega
          have hmil' := Lib.hid hmil
          clear hmi0 hbi hki hx0 hmil
          by_cases hxz : x = 0
          · subst hxz
            have INV := Lib.hid (inv_zero wr)
            have hzn : Hid (∀ q, top ≤ q → q < i + 1 → el Mk q k = 0) := fun q h1 h2 => by
              by_cases hqi : q = i
              · subst hqi; exact hxe.out
              · exact hz.out q h1 (by omega)
            have hNn : Hid (∀ o, Nu wo (wr.alloc o)) := fun o => Nu.trans _ _ _ hN.out ((Below.refl _ _).alloc (Nat.le_refl _) o)
            unfold bv at INV hcx
            go_wp2_with fail
            refine INV.out.mono ?_
            rintro e w' ⟨rfl, rfl⟩
            go_wp2_with fail
            go_roundw
            case rel => exact ⟨i + 1, rfl, by omega, by omega, by go_num, hNn.out _, hzn⟩
            case measure => simp [intOf]; omega
          · have hCi := Lib.hid (hC.out.trans (Chg.of hN.out))
            have INV := Lib.hid (inv_any x wr hxz (hTB.out wr hCi.out))
            obtain ⟨iv0, hiv0⟩ : ∃ v, v = Gf.inv x := ⟨_, rfl⟩
            rw [← hiv0] at INV
            have hiv := Lib.hid hiv0
            have hxz' := Lib.hid hxz
            obtain ⟨mt, hmt0⟩ : ∃ m, Mk[top]? = some m := ⟨_, List.getElem?_eq_getElem (by have := hl.out; omega)⟩
            have hmt := Lib.hid hmt0
            have hmtl := Lib.hid (hR.out.at hmt0)
            obtain ⟨W1, hW1⟩ : ∃ W1, W1 = wr.alloc (.cells #[.int .u8 iv0.toNat] 5) := ⟨_, rfl⟩
            have hN1 : Hid (Nu wr W1) := by show Nu _ _; rw [hW1]; exact (Below.refl _ _).alloc (Nat.le_refl _) _
            have hI1 : Hid (Blk W1 wr.heap.size [bv iv0] 5) := by show Blk _ _ _ _; rw [hW1]; exact Blk.new _ [_] _
            have hs1 : Hid (W1.heap.size = wr.heap.size + 1) := by show _ = _; rw [hW1]; simp
            have hO3 := Lib.hid ((hO2.out.keep hN1.out).keep ((Below.refl W1.heap.size W1).drew))
            obtain ⟨bt, hbt0, _, _, hct, _⟩ := hO3.out.at hmt0
            obtain ⟨bi2, hbi2, _, _, hci2, _⟩ := hO3.out.at hmi.out
            have hbe : bi2 = bi := by rw [hbi'.out] at hbi2; exact (Option.some.inj hbi2).symm
            subst hbe
            have hbt := Lib.hid hbt0
            rw [hmtl.out] at hct
            rw [hmil'.out] at hci2
            have hW1' := Lib.hid hW1
            have hgb : Hid (g < wr.heap.size ∧ ∀ b ∈ bs', b < wr.heap.size) := by
              refine ⟨hO2.out.out.lt, fun b hb => ?_⟩
              obtain ⟨q, hq⟩ := List.getElem?_of_mem hb
              have hql := (List.getElem?_eq_some_iff.1 hq).1
              exact (hO2.out.row q b _ hq (List.getElem?_eq_getElem (by rw [← hO2.out.len]; exact hql))).lt
            unfold bv at INV hcx
            clear hW1 hmt0 hbt0 hbi2 hiv0 hxz
            go_wp2_with fail
            refine INV.out.mono ?_
            rintro e w' ⟨rfl, rfl⟩
            go_wp2_with fail
            generalize hg : World.alloc _ _ = Wg
            have hgW : W1 = Wg := by rw [← hg, hW1'.out]
            clear hg hW1'
            subst hgW
            have hci3 : W1.drew.cell? ⟨g, i, none⟩ = some (.slice (some ⟨bi2, 0, none⟩) c c) := hci2
            have hct3 : W1.drew.cell? ⟨g, top, none⟩ = some (.slice (some ⟨bt, 0, none⟩) c c) := hct
            have tt : (top : Int) < (rows : Int) := by omega
            have tt0 : 0 ≤ (top : Int) := by omega
            have hrl : Hid ((rvals bs' Mk).length = rows) := by show _ = _; rw [rvals_len hO3.out.len, hl.out]
            have hOo := Lib.hid (show Blk W1.drew g (rvals bs' Mk) 43 by have h := hO3.out.out; rw [List.append_nil] at h; exact h)
            clear hci hci2 hct
            go_cut [] from 41 to 54 (fun W => Only g W1.drew W ∧ Blk W g (((rvals bs' Mk).set top (.slice (some ⟨bi2, 0, none⟩) c c)).set i (.slice (some ⟨bt, 0, none⟩) c c)) 43)
            case first J KK hJ hKK =>
              refine wp_region_planH (fun _ => True) [0, 1, 2, 3, 4, 5, 6, 8, 9, 10] 6 (by kernel_rfl) (by kernel_rfl) (by kernel_rfl) (by kernel_rfl) (by intro c a d v w h; cases d <;> exact h) trivial ?_
              change wpPlanH _ _ _ _ _ _ _ _ _ W1.drew
              have hne : Nonempty (SOf fun _ => True) := ⟨⟨W1, trivial⟩⟩
              iterate 10 (refine wpPlanH_plain rfl (fun K hK => ?_); go_simp; refine hK _ ?_; clear hK K)
              clear hne
              generalize W1.drew = Wd at hci3 hct3 hOo ⊢ hJ
              refine wpAnyH_each (rs := [7, 11]) (by kernel_rfl) (by decide) (fun K hK q hq => ?_)
              simp only [List.mem_cons, List.not_mem_nil, or_false] at hq
              rcases hq with rfl | rfl
              · refine wpOp_listed rfl ?_
                go_wp2_with fail
                refine postH_normal (hK _ _ _ trivial ?_)
                clear hK K
                refine wpAnyH_each (rs := [11]) (by kernel_rfl) (by decide) (fun K hK q hq => ?_)
                obtain rfl := List.mem_singleton.1 hq
                refine wpOp_listed rfl ?_
                go_wp2_with fail
                refine postH_normal (hK _ _ _ trivial ?_)
                clear hK K
                refine wpAnyH_each (rs := [12]) (by kernel_rfl) (by decide) (fun K hK q hq => ?_)
                obtain rfl := List.mem_singleton.1 hq
                refine wpOp_listed rfl ?_
                go_wp2_with fail
                refine postH_normal (hK _ _ _ trivial ?_)
                clear hK K
                refine wpAnyH_each (rs := [13]) (by kernel_rfl) (by decide) (fun K hK q hq => ?_)
                obtain rfl := List.mem_singleton.1 hq
                refine wpOp_listed rfl ?_
                refine wpList_blk_store rfl 43 _ _ rfl top (.slice (some ⟨bi2, 0, none⟩) c c) rfl rfl hOo.out size_row (by rw [hrl.out]; show top + 1 ≤ rows; omega) (one_slice _ _ _) ?_
                intro W2 hW2 ho2
                refine wpList_end (postH_normal (hK _ _ _ trivial ?_))
                clear hK K
                have hW2s : Hid (Blk W2 g ((rvals bs' Mk).set top (.slice (some ⟨bi2, 0, none⟩) c c)) 43) := by
                  have h := hW2.out
                  rw [show (Value.slice (some ⟨bi2, 0, none⟩) c c).cells.toList = [.slice (some ⟨bi2, 0, none⟩) c c] from rfl, splice_set _ _ _ (by rw [hrl.out]; omega)] at h
                  exact h
                refine wpAnyH_each (rs := [14]) (by kernel_rfl) (by decide) (fun K hK q hq => ?_)
                obtain rfl := List.mem_singleton.1 hq
                refine wpOp_listed rfl ?_
                go_wp2_with fail
                refine postH_normal (hK _ _ _ trivial ?_)
                clear hK K
                refine wpAnyH_each (rs := [15]) (by kernel_rfl) (by decide) (fun K hK q hq => ?_)
                obtain rfl := List.mem_singleton.1 hq
                refine wpOp_listed rfl ?_
                refine wpList_blk_store rfl 43 _ _ rfl i (.slice (some ⟨bt, 0, none⟩) c c) rfl rfl hW2s.out size_row (by rw [List.length_set, hrl.out]; show i + 1 ≤ rows; omega) (one_slice _ _ _) ?_
                intro W3 hW3 ho3
                refine wpList_end (postH_normal (hK _ _ _ trivial ?_))
                clear hK K
                have hW3s : Blk W3 g (((rvals bs' Mk).set top (.slice (some ⟨bi2, 0, none⟩) c c)).set i (.slice (some ⟨bt, 0, none⟩) c c)) 43 := by
                  have h := hW3.out
                  rw [show (Value.slice (some ⟨bt, 0, none⟩) c c).cells.toList = [.slice (some ⟨bt, 0, none⟩) c c] from rfl, splice_set _ _ _ (by rw [List.length_set, hrl.out]; omega)] at h
                  exact h
                refine wpAnyH_done (by kernel_rfl) ?_ _
                simp only [Act.put, List.setIfInBounds_toArray, List.set_cons_zero, List.set_cons_succ]
                show KK _ W3
                refine hKK _ _ (Met.intro (hJ _ _ ?_))
                repeat apply Exists.intro
                exact ⟨⟨ho2.trans ho3, hW3s⟩, rfl⟩
              · refine wpOp_listed rfl ?_
                go_wp2_with fail
                refine postH_normal (hK _ _ _ trivial ?_)
                clear hK K
                refine wpAnyH_each (rs := [7]) (by kernel_rfl) (by decide) (fun K hK q hq => ?_)
                obtain rfl := List.mem_singleton.1 hq
                refine wpOp_listed rfl ?_
                go_wp2_with fail
                refine postH_normal (hK _ _ _ trivial ?_)
                clear hK K
                refine wpAnyH_each (rs := [12]) (by kernel_rfl) (by decide) (fun K hK q hq => ?_)
                obtain rfl := List.mem_singleton.1 hq
                refine wpOp_listed rfl ?_
                go_wp2_with fail
                refine postH_normal (hK _ _ _ trivial ?_)
                clear hK K
                refine wpAnyH_each (rs := [13]) (by kernel_rfl) (by decide) (fun K hK q hq => ?_)
                obtain rfl := List.mem_singleton.1 hq
                refine wpOp_listed rfl ?_
                refine wpList_blk_store rfl 43 _ _ rfl top (.slice (some ⟨bi2, 0, none⟩) c c) rfl rfl hOo.out size_row (by rw [hrl.out]; show top + 1 ≤ rows; omega) (one_slice _ _ _) ?_
                intro W2 hW2 ho2
                refine wpList_end (postH_normal (hK _ _ _ trivial ?_))
                clear hK K
                have hW2s : Hid (Blk W2 g ((rvals bs' Mk).set top (.slice (some ⟨bi2, 0, none⟩) c c)) 43) := by
                  have h := hW2.out
                  rw [show (Value.slice (some ⟨bi2, 0, none⟩) c c).cells.toList = [.slice (some ⟨bi2, 0, none⟩) c c] from rfl, splice_set _ _ _ (by rw [hrl.out]; omega)] at h
                  exact h
                refine wpAnyH_each (rs := [14]) (by kernel_rfl) (by decide) (fun K hK q hq => ?_)
                obtain rfl := List.mem_singleton.1 hq
                refine wpOp_listed rfl ?_
                go_wp2_with fail
                refine postH_normal (hK _ _ _ trivial ?_)
                clear hK K
                refine wpAnyH_each (rs := [15]) (by kernel_rfl) (by decide) (fun K hK q hq => ?_)
                obtain rfl := List.mem_singleton.1 hq
                refine wpOp_listed rfl ?_
                refine wpList_blk_store rfl 43 _ _ rfl i (.slice (some ⟨bt, 0, none⟩) c c) rfl rfl hW2s.out size_row (by rw [List.length_set, hrl.out]; show i + 1 ≤ rows; omega) (one_slice _ _ _) ?_
                intro W3 hW3 ho3
                refine wpList_end (postH_normal (hK _ _ _ trivial ?_))
                clear hK K
                have hW3s : Blk W3 g (((rvals bs' Mk).set top (.slice (some ⟨bi2, 0, none⟩) c c)).set i (.slice (some ⟨bt, 0, none⟩) c c)) 43 := by
                  have h := hW3.out
                  rw [show (Value.slice (some ⟨bt, 0, none⟩) c c).cells.toList = [.slice (some ⟨bt, 0, none⟩) c c] from rfl, splice_set _ _ _ (by rw [List.length_set, hrl.out]; omega)] at h
                  exact h
                refine wpAnyH_done (by kernel_rfl) ?_ _
                simp only [Act.put, List.setIfInBounds_toArray, List.set_cons_zero, List.set_cons_succ]
                show KK _ W3
                refine hKK _ _ (Met.intro (hJ _ _ ?_))
                repeat apply Exists.intro
                exact ⟨⟨ho2.trans ho3, hW3s⟩, rfl⟩
            case rest =>
            obtain ⟨ho23, hW3⟩ := hcut
            obtain ⟨W3, hW3e⟩ : ∃ W3, W3 = wc := ⟨_, rfl⟩
            subst hW3e
            have hO4 : Hid (Om W3 base g (swp bs' top i bt bi2) (swp Mk top i mt mi) []) := by
              refine hO3.out.swap hbt.out hbi'.out hmt.out hmi.out ho23 ?_
              rw [hmil'.out, hmtl.out]
              exact hW3
            have hC3 : Hid (Chg (g :: bs) w W3) := ((hCi.out.trans (Chg.of hN1.out)).trans (Chg.of ((Below.refl W1.heap.size W1).drew))).trans (Chg.only ho23 (List.mem_cons_self ..))
            have hI3 : Hid (Blk W3 wr.heap.size [bv iv0] 5) := hI1.out.drew.only ho23 (by have := hgb.out.1; omega)
            have hs3 : Hid (W3.heap.size = wr.heap.size + 1) := by show _ = _; rw [ho23.size]; exact hs1.out
            have hP2 : Hid ((swp bs' top i bt bi2).Perm bs) := (swp_perm hbt.out hbi'.out).trans hP.out
            have hM2t : Hid ((swp Mk top i mt mi)[top]? = some mi) := by
              show _ = _
              rw [swp_get hmt.out hmi.out]
              by_cases hti2 : top = i
              · rw [if_pos hti2]
                have := hmt.out
                rw [hti2, hmi.out] at this
                exact this.symm
              · rw [if_neg hti2, if_pos rfl]
            have hb2t : Hid ((swp bs' top i bt bi2)[top]? = some bi2) := by
              show _ = _
              rw [swp_get hbt.out hbi'.out]
              by_cases hti2 : top = i
              · rw [if_pos hti2]
                have := hbt.out
                rw [hti2, hbi'.out] at this
                exact this.symm
              · rw [if_neg hti2, if_pos rfl]
            have hR2 : Hid (Rect (swp Mk top i mt mi) c) := Rect.set (Rect.set hR.out _ hmil'.out) _ hmtl.out
            have hl2 : Hid ((swp Mk top i mt mi).length = rows) := by show _ = _; rw [swp_len]; exact hl.out
            have hstep : Hid (pivStep Mk top k i = elimK ((swp Mk top i mt mi).set top (mulR iv0 mi)) top k (mulR iv0 mi) rows) := by
              show _ = _
              unfold pivStep
              rw [List.getD_eq_getElem?_getD, hmt.out, List.getD_eq_getElem?_getD, hmi.out, hxe.out, ← hiv.out, hl.out]
              rfl
            have hfp : Hid (redGo (pivStep Mk top k i) (piv ++ [k]) ((List.range n).drop (k + 1)) = res) := by
              show _ = _
              rw [← hres2.out, hdrop.out]
              conv => rhs; unfold redGo
              rw [findP_some (i := i) (by rw [hl.out]; exact hli) (by rw [← htop'.out]; exact hti) (fun q h1 h2 => hz.out q (by rw [htop'.out]; exact h1) h2) (by rw [hxe.out]; exact hxz'.out), ← htop'.out]
            have hV3 : Hid (OwnP W3 w.heap.size (.slice Ap top cp) piv) := by
              have h1 : OwnP wr w.heap.size (.slice Ap top cp) piv := hV.out.kept fun b _ hlt => hN.out.block b hlt
              have h2 : Chg (g :: bs) wr W3 := ((Chg.of hN1.out).trans (Chg.of ((Below.refl W1.heap.size W1).drew))).trans (Chg.only ho23 (List.mem_cons_self ..))
              exact h1.chg h2 (fun x hx => (hgs.out x hx).2)
            rw [hstep.out] at hfp
            have hgb2 : Hid (g < W3.heap.size ∧ ∀ b ∈ swp bs' top i bt bi2, b < wr.heap.size) := ⟨hO4.out.out.lt, fun b hb => hgb.out.2 b ((swp_perm hbt.out hbi'.out).mem_iff.1 hb)⟩
            generalize hbs2 : swp bs' top i bt bi2 = bs2 at hO4 hP2 hb2t hgb2
            generalize hM2 : swp Mk top i mt mi = M2 at hO4 hM2t hR2 hl2 hstep hfp
            have hib : Hid (wr.heap.size ∉ g :: bs) := fun hh => by have := (hgs.out _ hh).2; have := hCi.out.size; omega
            clear hbs2 hM2 hW3 ho23 hOo hci3 hct3 hO3 hO2 hN1 hI1 hs1 hrl
            -- the box of the pivot, and its row divided
            obtain ⟨b0, hb00, _, _, hct4, hkt4⟩ := hO4.out.at hM2t.out
            have hb0e : b0 = bi2 := by rw [hb2t.out] at hb00; exact (Option.some.inj hb00).symm
            subst hb0e
            rw [hmil'.out] at hct4
            obtain ⟨W4, hW4⟩ : ∃ W4, W4 = W3.alloc (.cells #[.slice (some ⟨b0, 0, none⟩) c c] 43) := ⟨_, rfl⟩
            have hN4 : Hid (Nu W3 W4) := by show Nu _ _; rw [hW4]; exact (Below.refl _ _).alloc (Nat.le_refl _) _
            have hB4 : Hid (Blk W4 W3.heap.size [.slice (some ⟨b0, 0, none⟩) c c] 43) := by show Blk _ _ _ _; rw [hW4]; exact Blk.new _ [_] _
            have hs4 : Hid (W4.heap.size = wr.heap.size + 2) := by show _ = _; rw [hW4]; have := hs3.out; simp; omega
            have hI4 := Lib.hid (hI3.out.below hN4.out hI3.out.lt)
            have hO5 := Lib.hid (hO4.out.keep hN4.out)
            have hC4 := Lib.hid (hC3.out.trans (Chg.of hN4.out))
            have hV4 : Hid (OwnP W4 w.heap.size (.slice Ap top cp) piv) := hV3.out.chg (gs := []) (Chg.of hN4.out) (fun x hx => by cases hx)
            have hk4 : Hid (Blk W4 b0 (mi.map bv) 5) := hkt4.below hN4.out hkt4.lt
            have q4 : W4.cell? ⟨W3.heap.size, 0, none⟩ = some (.slice (some ⟨b0, 0, none⟩) c c) := hB4.out.cell rfl
            have hb0m : Hid (b0 ∈ g :: bs ∧ b0 < wr.heap.size) := ⟨List.mem_cons_of_mem _ (hP2.out.mem_iff.1 (List.mem_of_getElem? hb2t.out)), hgb2.out.2 _ (List.mem_of_getElem? hb2t.out)⟩
            have FILL : Hid (Calls Tryd.prog 98 #[.slice (some ⟨b0, 0, none⟩) c c, .func (.func 101) #[] #[.pointer (some ⟨wr.heap.size, 0, none⟩), .pointer (some ⟨W3.heap.size, 0, none⟩)]] W4 fun e w' => e = .returned (.tuple #[]) ∧ Only b0 W4 w' ∧ Blk w' b0 ((mulR iv0 mi).map bv) 5) := by
              have h := (fill_of 101 [.pointer (some ⟨wr.heap.size, 0, none⟩), .pointer (some ⟨W3.heap.size, 0, none⟩)] (fun j => Gf.mul iv0 (mi.getD j 0)) b0 mi c W4 (by rw [hmil'.out]; omega) hk4.out (enter_of Tryd.func101 (by kernel_rfl) (by kernel_rfl)) (fun j hj W hOn hKn => by
                have hjc : j < c := by rw [← hmil'.out]; exact hj
                refine reduce1_any iv0 (mi.getD j 0) j wr.heap.size W3.heap.size b0 c c W ((hI4.out.only hOn (by have := hb0m.out.2; omega)).cell rfl) ((hB4.out.only hOn (by have := hb0m.out.2; have := hs3.out; omega)).cell rfl) hjc (hKn.cell ?_) (hTB.out W (hC4.out.trans (Chg.only hOn hb0m.out.1)))
                rw [List.getElem?_map, mixF_get_ge _ _ _ _ (Nat.le_refl _), List.getElem?_eq_getElem hj, List.getD_eq_getElem?_getD, List.getElem?_eq_getElem hj]
                rfl)).mono (R' := fun e w' => e = .returned (.tuple #[]) ∧ Only b0 W4 w' ∧ Blk w' b0 ((mulR iv0 mi).map bv) 5) (fun e w' hh => hh)
              rw [hmil'.out] at h
              exact h
            have hW4' := Lib.hid hW4
            clear hW4 hb00 hkt4
            go_wp2_with fail
            generalize hg : World.alloc _ _ = Wg
            have hgW : W4 = Wg := by rw [← hg, hW4'.out]
            clear hg hW4'
            subst hgW
            refine FILL.out.mono ?_
            rintro e w5 ⟨rfl, ho5, hk5⟩
            obtain ⟨p, hp0⟩ : ∃ p, p = mulR iv0 mi := ⟨_, rfl⟩
            rw [← hp0] at hk5
            have hpe := Lib.hid hp0
            have hpl : Hid (p.length = c) := by show _ = _; rw [hp0, mulR_len]; exact hmil'.out
            have hO6 : Hid (Om w5 base g bs2 (elimK (M2.set top p) top k p 0) []) := by
              show Om _ _ _ _ _ _
              rw [elimK_zero]
              exact hO5.out.setRow hb2t.out hM2t.out ho5 hk5 (by rw [hpl.out]; exact hmil'.out.symm)
            have hC5 := Lib.hid (hC4.out.trans (Chg.only ho5 hb0m.out.1))
            have hB5 := Lib.hid (hB4.out.only ho5 (by have := hb0m.out.2; have := hs3.out; omega))
            have hV5 : Hid (OwnP w5 w.heap.size (.slice Ap top cp) piv) := hV4.out.chg (Chg.only ho5 hb0m.out.1) (fun x hx => (hgs.out x hx).2)
            have hs5 : Hid (w5.heap.size = wr.heap.size + 2) := by show _ = _; rw [ho5.size]; exact hs4.out
            rw [← hp0] at hstep hfp
            have hR3 : Hid (Rect (M2.set top p) c) := Rect.set hR2.out _ hpl.out
            have hl3 : Hid ((M2.set top p).length = rows) := by show _ = _; rw [List.length_set]; exact hl2.out
            have hM3t : Hid ((M2.set top p)[top]? = some p) := List.getElem?_set_self (by rw [hl2.out]; omega)
            generalize hM3 : M2.set top p = M3 at hO6 hstep hfp hR3 hl3 hM3t
            have hpbn : Hid (W3.heap.size ∉ g :: bs) := fun hh => by have := (hgs.out _ hh).2; have := hC3.out.size; omega
            clear hM3 hp0 FILL q4 hk4 hk5 ho5 hO5 hO4 hC4 hC3 hB4 hV4 hV3 hI4 hI3 hN4 hM2t hR2 hl2 INV hct4
            obtain ⟨wi, hwi⟩ : ∃ wi, wi = wr := ⟨_, rfl⟩
            subst hwi
            go_wp2_with fail
            go_loopw [64] (fun v wr => ∃ q : Nat, q ≤ rows ∧ v = .int .i64 q ∧ Chg (g :: bs) w5 wr ∧ Om wr base g bs2 (elimK M3 top k p q) []) (fun v _ => rows - (intOf v).toNat)
            case atStart => exact ⟨0, by omega, rfl, Chg.refl _ _, hO6.out⟩
            case round =>
              obtain ⟨q, hq, rfl, hC60, hO60⟩ := hrel
              have hC6 := Lib.hid hC60
              have hO6r := Lib.hid hO60
              clear hC60 hO60
              by_cases hlq : q < rows
              · have tq : (q : Int) < (rows : Int) := by omega
                have tq0 : 0 ≤ (q : Int) := by omega
                obtain ⟨r0, hr00⟩ : ∃ m, M3[q]? = some m := ⟨_, List.getElem?_eq_getElem (by have := hl3.out; omega)⟩
                have hr0 := Lib.hid hr00
                have hrl : Hid (r0.length = c) := hR3.out.at hr00
                have hEq : Hid ((elimK M3 top k p q)[q]? = some r0) := by show _ = _; rw [elimK_get, hr00]; simp
                obtain ⟨br, hbr0, _, _, hcr, hkr⟩ := hO6r.out.at hEq.out
                rw [hrl.out] at hcr
                have hbr := Lib.hid hbr0
                obtain ⟨cc, hcc0⟩ : ∃ x, r0[k]? = some x := ⟨_, List.getElem?_eq_getElem (by rw [hrl.out]; omega)⟩
                have hcc : Hid (r0.getD k 0 = cc) := by show _ = _; rw [List.getD_eq_getElem?_getD, hcc0]; rfl
                have hcb : wr.cell? ⟨br, k, none⟩ = some (bv cc) := hkr.cell (by rw [List.getElem?_map, hcc0]; rfl)
                have hkr' := Lib.hid hkr
                obtain ⟨W7, hW7⟩ : ∃ W7, W7 = (wr.alloc (.cells #[.slice (some ⟨br, 0, none⟩) c c] 43)).alloc (.cells #[.int .u8 cc.toNat] 5) := ⟨_, rfl⟩
                have hN7 : Hid (Nu wr W7) := by show Nu _ _; rw [hW7]; exact ((Below.refl _ _).alloc (Nat.le_refl _) _).alloc (by simp) _
                have hr7 : Hid (Blk W7 wr.heap.size [.slice (some ⟨br, 0, none⟩) c c] 43) := by show Blk _ _ _ _; rw [hW7]; exact (Blk.new _ [_] _).alloc _
                have hc7 : Hid (Blk W7 (wr.heap.size + 1) [bv cc] 5) := by show Blk _ _ _ _; rw [hW7]; exact (Blk.new _ [_] _).at (by simp)
                have hO7 := Lib.hid (hO6r.out.keep hN7.out)
                have hC7 := Lib.hid (hC6.out.trans (Chg.of hN7.out))
                have hcb1 : ∀ o, (wr.alloc o).cell? ⟨br, k, none⟩ = some (.int .u8 cc.toNat) := fun o => (((Below.refl _ _).alloc (Nat.le_refl _) o).cell hkr'.out.lt).trans hcb
                have hW7' := Lib.hid hW7
                clear hW7 hcc0 hbr0 hkr hcb hr00
                by_cases hqt : q = top
                · have hOn : Hid (Om W7 base g bs2 (elimK M3 top k p (q + 1)) []) := by
                    show Om _ _ _ _ _ _
                    rw [elimK_skip _ _ _ _ _ (.inl hqt)]
                    exact hO7.out
                  subst hqt
                  go_wp2_with fail
                  generalize hg : World.alloc _ _ = Wg
                  have hgW : W7 = Wg := by rw [← hg, hW7'.out]
                  clear hg hW7'
                  subst hgW
                  go_wp2_with fail
                  go_roundw
                  case rel => exact ⟨q + 1, by omega, by go_num, hC7.out, hOn.out⟩
                  case measure => simp [intOf]; omega
                · have tqt : ((q : Int) != (top : Int)) = true := by simp only [bne_iff_ne, ne_eq]; omega
                  have hqt' := Lib.hid hqt
                  clear hqt
                  by_cases hc0 : cc = 0
                  · have hOn : Hid (Om W7 base g bs2 (elimK M3 top k p (q + 1)) []) := by
                      show Om _ _ _ _ _ _
                      rw [elimK_skip _ _ _ _ _ (.inr (fun r hr => by rw [hr0.out] at hr; rw [← Option.some.inj hr, hcc.out]; exact hc0))]
                      exact hO7.out
                    have tcc : (((cc.toNat : Nat) : Int) != 0) = false := by rw [hc0]; rfl
                    clear hc0
                    go_wp2_with fail
                    generalize hg : World.alloc _ _ = Wg
                    have hgW : W7 = Wg := by rw [← hg, hW7'.out]
                    clear hg hW7'
                    subst hgW
                    go_wp2_with fail
                    go_roundw
                    case rel => exact ⟨q + 1, by omega, by go_num, hC7.out, hOn.out⟩
                    case measure => simp [intOf]; omega
                  · have tcc : (((cc.toNat : Nat) : Int) != 0) = true := by
                      simp only [bne_iff_ne, ne_eq]
                      intro hh
                      exact hc0 (UInt8.toNat_inj.1 (by rw [show (0 : UInt8).toNat = 0 from rfl]; omega))
                    have hbrm : Hid (br ∈ g :: bs ∧ br < wr.heap.size) := ⟨List.mem_cons_of_mem _ (hP2.out.mem_iff.1 (List.mem_of_getElem? hbr.out)), hkr'.out.lt⟩
                    have hk7 := Lib.hid (hkr'.out.below hN7.out hkr'.out.lt)
                    have hbne : Hid (br ≠ b0) := fun hh => by
                      have h1 := (List.getElem?_eq_some_iff.1 hbr.out)
                      have h2 := (List.getElem?_eq_some_iff.1 hb2t.out)
                      exact hqt'.out ((List.getElem_inj hO7.out.nodup).1 (h1.2.trans (hh.trans h2.2.symm)))
                    have hp7 : Hid (Blk W7 b0 (p.map bv) 5) := hO7.out.row top b0 p hb2t.out (by rw [elimK_get, hM3t.out]; simp)
                    have hb7 : Hid (Blk W7 W3.heap.size [.slice (some ⟨b0, 0, none⟩) c c] 43) := hC7.out.blk hB5.out hpbn.out
                    have hpbs : Hid (W3.heap.size < wr.heap.size) := by show _ < _; have := hs5.out; have := hs3.out; have := hC6.out.size; omega
                    have FILL : Hid (Calls Tryd.prog 98 #[.slice (some ⟨br, 0, none⟩) c c, .func (.func 102) #[] #[.pointer (some ⟨wr.heap.size, 0, none⟩), .pointer (some ⟨wr.heap.size + 1, 0, none⟩), .pointer (some ⟨W3.heap.size, 0, none⟩)]] W7 fun e w' => e = .returned (.tuple #[]) ∧ Only br W7 w' ∧ Blk w' br ((addR cc p r0).map bv) 5) := by
                      have h := (fill_of 102 [.pointer (some ⟨wr.heap.size, 0, none⟩), .pointer (some ⟨wr.heap.size + 1, 0, none⟩), .pointer (some ⟨W3.heap.size, 0, none⟩)] (fun j => r0.getD j 0 ^^^ Gf.mul cc (p.getD j 0)) br r0 c W7 (by rw [hrl.out]; omega) hk7.out (enter_of Tryd.func102 (by kernel_rfl) (by kernel_rfl)) (fun j hj W hOn hKn => by
                        have hjc : j < c := by rw [← hrl.out]; exact hj
                        have hjp : j < p.length := by rw [hpl.out]; exact hjc
                        refine reduce2_any cc (r0.getD j 0) (p.getD j 0) j wr.heap.size (wr.heap.size + 1) W3.heap.size br b0 c c c c W ((hr7.out.only hOn (by have := hbrm.out.2; omega)).cell rfl) ((hc7.out.only hOn (by have := hbrm.out.2; omega)).cell rfl) ((hb7.out.only hOn (fun hh => hpbn.out (by rw [hh]; exact hbrm.out.1))).cell rfl) hjc hjc ((hp7.out.only hOn hbne.out.symm).cell ?_) (hKn.cell ?_) (hTB.out W ((hC5.out.trans hC7.out).trans (Chg.only hOn hbrm.out.1)))
                        · rw [List.getElem?_map, List.getElem?_eq_getElem hjp, List.getD_eq_getElem?_getD, List.getElem?_eq_getElem hjp]
                          rfl
                        · rw [List.getElem?_map, mixF_get_ge _ _ _ _ (Nat.le_refl _), List.getElem?_eq_getElem hj, List.getD_eq_getElem?_getD, List.getElem?_eq_getElem hj]
                          rfl)).mono (R' := fun e w' => e = .returned (.tuple #[]) ∧ Only br W7 w' ∧ Blk w' br ((addR cc p r0).map bv) 5) (fun e w' hh => hh)
                      rw [hrl.out] at h
                      exact h
                    have q7 : W7.cell? ⟨wr.heap.size, 0, none⟩ = some (.slice (some ⟨br, 0, none⟩) c c) := hr7.out.cell rfl
                    clear hc0
                    go_wp2_with fail
                    generalize hg : World.alloc _ _ = Wg
                    have hgW : W7 = Wg := by rw [← hg, hW7'.out]
                    clear hg hW7'
                    subst hgW
                    go_wp2_with fail
                    refine FILL.out.mono ?_
                    rintro e w8 ⟨rfl, ho8, hk8⟩
                    have hOn : Hid (Om w8 base g bs2 (elimK M3 top k p (q + 1)) []) := by
                      show Om _ _ _ _ _ _
                      have h := hO7.out.setRow hbr.out hEq.out ho8 hk8 (addR_len _ _ _)
                      rw [← hcc.out, elimK_next M3 top k p q r0 hr0.out hqt'.out] at h
                      exact h
                    have hC8 := Lib.hid (hC7.out.trans (Chg.only ho8 hbrm.out.1))
                    clear ho8 hk8 q7
                    go_wp2_with fail
                    go_roundw
                    case rel => exact ⟨q + 1, by omega, by go_num, hC8.out, hOn.out⟩
                    case measure => simp [intOf]; omega
              · have tq : ¬ (q : Int) < (rows : Int) := by omega
                have hO9 : Hid (Om wr base g bs2 (pivStep Mk top k i) []) := by
                  show Om _ _ _ _ _ _
                  rw [hstep.out, show rows = q by omega]
                  exact hO6r.out
                have hfp9 : Hid (redGo (pivStep Mk top k i) (piv ++ [k]) ((List.range n).drop (k + 1)) = res) := by show _ = _; rw [hstep.out]; exact hfp.out
                have hC9 := Lib.hid (hC5.out.trans hC6.out)
                have hV9 : Hid (OwnP wr w.heap.size (.slice Ap top cp) piv) := hV5.out.chg hC6.out (fun x hx => (hgs.out x hx).2)
                have hR9 : Hid (Rect (pivStep Mk top k i) c) := hR.out.step k (by have := hl.out; omega) (by have := hl.out; omega)
                have hl9 : Hid ((pivStep Mk top k i).length = rows) := by show _ = _; rw [pivStep_len]; exact hl.out
                have hwl : Hid (w.heap.size ≤ wr.heap.size) := hC9.out.size
                have hpl9 : Hid (piv.length ≤ 1000000 ∧ (piv ++ [k]).length ≤ k + 1 ∧ (piv ++ [k]).length ≤ rows) := by
                  have := htop'.out
                  refine ⟨by omega, ?_, ?_⟩ <;> simp <;> omega
                generalize pivStep Mk top k i = M9 at hO9 hfp9 hR9 hl9
                clear hO6r hC6 hfp hstep hV5 hO6
                go_wp2_with (refine push_piv rfl _ _ rfl w.heap.size (.slice Ap top cp) piv k _ rfl rfl rfl hV9.out hpl9.out.1 hwl.out ?_; intro v10 w10 hv10 hg10)
                have hbk : ∀ b, (Value.slice Ap top cp).ownBlock = some b → w.heap.size ≤ b := fun b hb => (World.ownsRow.lt hV9.out b hb).1
                have hO10 := Lib.hid (hO9.out.grown hg10 (fun b hb hm => by
                  have h1 := hbk b hb
                  rcases List.mem_cons.1 hm with hm | hm
                  · have := (hgs.out b (by rw [hm]; exact List.mem_cons_self ..)).2; omega
                  · have := (hgs.out b (List.mem_cons_of_mem _ (hP2.out.mem_iff.1 hm))).2; omega))
                have hC10 := Lib.hid (hC9.out.grown hg10 hbk)
                have hv10' := Lib.hid hv10
                clear hbk hg10 hv10
                go_wp2_with fail
                go_roundw
                case rel => exact ⟨k + 1, M9, piv ++ [k], bs2, by omega, by go_num, hC10.out, hO10.out, hP2.out, hv10'.out, hR9.out, hl9.out, hpl9.out.2.1, hpl9.out.2.2, hfp9⟩
                case measure => simp [intOf]; omega
        · have ti : ¬ (i : Int) < (rows : Int) := by omega
          have hfp : Hid (redGo Mk piv ((List.range n).drop (k + 1)) = res) := by
            show _ = _
            rw [← hres2.out, hdrop.out]
            conv => rhs; unfold redGo
            rw [findP_none (fun q h1 h2 => hz.out q (by rw [htop'.out]; exact h1) (by have := hl.out; omega))]
          have hNC : Chg (g :: bs) w wr := hC.out.trans (Chg.of hN.out)
          have hO2 := Lib.hid (hO.out.keep hN.out)
          have hV2 : OwnP wr w.heap.size (.slice Ap top cp) piv := hV.out.kept fun b _ hlt => hN.out.block b hlt
          go_wp2_with fail
          go_roundw
          case rel => exact ⟨k + 1, Mk, piv, bs', by omega, by go_num, hNC, hO2.out, hP.out, hV2, hR.out, hl.out, by rw [← htop'.out]; omega, by rw [← htop'.out]; exact hp2, hfp⟩
          case measure => simp [intOf]; omega
    · have t : ¬ (k : Int) < (n : Int) := by omega
      have hfin : Hid (res = (Mk, piv)) := by
        show _ = _
        rw [← hres2.out, List.drop_eq_nil_of_le (by simp; omega)]
        rfl
      go_wp2_with fail
      exact hEnd.out _ bs' _ (by rw [hfin.out]; exact hV.out) (by rw [hfin.out]; exact hO.out) hP.out hC.out
end Go.Proofs.YtfbdhcpclccikaaDoor
