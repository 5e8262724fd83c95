/-
  Plain facts on the encoding of integers, byte strings and lists as bytes (chapter 1): no Go in sight. Plain facts on lists as bytes: what is encoded is decoded, whatever follows; what is decoded was encoded so; a proper beginning is too short.
-/

namespace Go.Proofs.Ytbkgbjimooobbaa.Wm

def zig (n : Int) : Nat := if n < 0 then (2 * (-1 - n) + 1).toNat else (2 * n).toNat
def zag (z : Nat) : Int := if z % 2 = 1 then -1 - ((z / 2 : Nat) : Int) else ((z / 2 : Nat) : Int)
def digs : Nat → Nat → List UInt8
  | 0, _ => []
  | f + 1, z => if z < 128 then [UInt8.ofNat z] else UInt8.ofNat (128 + z % 128) :: digs f (z / 128)
def enc (n : Int) : List UInt8 := digs 10 (zig n)

def lead : List UInt8 → Nat
  | [] => 0
  | b :: t => if b.toNat < 128 then 0 else lead t + 1
def val : List UInt8 → Nat
  | [] => 0
  | b :: t => b.toNat % 128 + 128 * val t
def bad (l : List UInt8) : Bool := (lead l == 9 && decide (1 < (l.getD (lead l) 0).toNat)) || (decide (0 < lead l) && (l.getD (lead l) 0).toNat == 0)
def getInt (l : List UInt8) : Int × Nat × Int :=
  if 10 ≤ lead l then (0, 0, 11)
  else if l.length ≤ lead l then (0, 0, 10)
  else if bad l then (0, 0, 11)
  else (zag (val (l.take (lead l + 1))), lead l + 1, 0)

def Fits (n : Int) : Prop := -9223372036854775808 ≤ n ∧ n ≤ 9223372036854775807

theorem zag_zig (n : Int) : zag (zig n) = n := by
  unfold zag zig
  split <;> split <;> omega
theorem zig_zag (z : Nat) : zig (zag z) = z := by
  unfold zag zig
  split <;> split <;> omega
theorem zig_lt {n : Int} (h : Fits n) : zig n < 18446744073709551616 := by
  unfold Fits at h; unfold zig; split <;> omega
theorem zag_fits {z : Nat} (h : z < 18446744073709551616) : Fits (zag z) := by
  unfold Fits zag; split <;> omega
theorem zig_inj {m n : Int} (h : zig m = zig n) : m = n := by
  have := congrArg zag h
  rwa [zag_zig, zag_zig] at this

theorem toNat_ofNat {z : Nat} (h : z < 256) : (UInt8.ofNat z).toNat = z := by
  rw [UInt8.toNat_ofNat']
  exact Nat.mod_eq_of_lt h
theorem digs_ne (f z : Nat) : digs (f + 1) z ≠ [] := by
  unfold digs; split <;> simp
theorem digs_len (f z : Nat) : (digs f z).length ≤ f := by
  induction f generalizing z with
  | zero => simp [digs]
  | succ f ih =>
    unfold digs
    split
    · simp
    · have := ih (z / 128); simp; omega
theorem digs_pos (f z : Nat) : 0 < (digs (f + 1) z).length := by
  have := digs_ne f z
  exact List.length_pos_iff.2 this
theorem enc_len (n : Int) : (enc n).length ≤ 10 := digs_len 10 _
theorem enc_pos (n : Int) : 0 < (enc n).length := digs_pos 9 _
theorem digs_one (f z : Nat) : (digs (f + 2) z).length = 1 ↔ z < 128 := by
  unfold digs
  split
  · simp; assumption
  · simp [*]; exact digs_ne _ _
theorem digs_mono (f z z' : Nat) (h : z / 2 ≤ z' / 2) : (digs f z).length ≤ (digs f z').length := by
  induction f generalizing z z' with
  | zero => simp [digs]
  | succ f ih =>
    unfold digs
    by_cases h1 : z < 128
    · rw [if_pos h1]
      split <;> simp
    · rw [if_neg h1, if_neg (by omega)]
      have := ih (z / 128) (z' / 128) (by omega)
      simp; omega

/-- how far an integer is from -1/2 -/
def far (n : Int) : Int := if n < 0 then -1 - n else n
theorem zig_half (n : Int) : ((zig n / 2 : Nat) : Int) = far n := by
  unfold zig far; split <;> omega
theorem enc_mono {m n : Int} (h : far m ≤ far n) : (enc m).length ≤ (enc n).length := by
  apply digs_mono
  have h1 := zig_half m
  have h2 := zig_half n
  omega
theorem enc_one (n : Int) : (enc n).length = 1 ↔ far n < 64 := by
  have h1 := zig_half n
  rw [show (enc n).length = (digs (8 + 2) (zig n)).length from rfl, digs_one]
  omega
theorem enc_neg (n : Int) : (enc (-1 - n)).length = (enc n).length := by
  have h1 : far (-1 - n) = far n := by unfold far; split <;> split <;> omega
  exact Nat.le_antisymm (enc_mono (by omega)) (enc_mono (by omega))

/-! ### what digits say -/
theorem lead_le (l : List UInt8) : lead l ≤ l.length := by
  induction l with
  | nil => simp [lead]
  | cons b t ih => unfold lead; split <;> simp; omega
theorem lead_high (l : List UInt8) : ∀ i, i < lead l → 128 ≤ (l.getD i 0).toNat := by
  induction l with
  | nil => intro i h; simp [lead] at h
  | cons b t ih =>
    intro i h
    unfold lead at h
    split at h
    · omega
    · cases i with
      | zero => simp; omega
      | succ i => simpa using ih i (by omega)
theorem lead_low (l : List UInt8) (h : lead l < l.length) : (l.getD (lead l) 0).toNat < 128 := by
  induction l with
  | nil => simp at h
  | cons b t ih =>
    unfold lead at h ⊢
    split
    · simpa
    · rename_i hb
      rw [if_neg hb] at h
      simpa using ih (by simpa using h)
/-- lead is the only number with these three marks -/
theorem lead_eq {l : List UInt8} {k : Nat} (hk : k ≤ l.length) (hh : ∀ i, i < k → 128 ≤ (l.getD i 0).toNat) (hl : k < l.length → (l.getD k 0).toNat < 128) : lead l = k := by
  have h1 := lead_high l
  have h2 := lead_low l
  have h3 := lead_le l
  rcases Nat.lt_trichotomy (lead l) k with h | h | h
  · have := hh _ h
    have := h2 (by omega)
    omega
  · exact h
  · have := h1 _ h
    have := hl (by omega)
    omega
theorem val_lt (l : List UInt8) : val l < 128 ^ l.length := by
  induction l with
  | nil => simp [val]
  | cons b t ih =>
    unfold val
    rw [List.length_cons, Nat.pow_succ]
    have := Nat.mod_lt b.toNat (show 0 < 128 by omega)
    omega
theorem val_snoc (l : List UInt8) (b : UInt8) : val (l ++ [b]) = val l + 128 ^ l.length * (b.toNat % 128) := by
  induction l with
  | nil => simp [val]
  | cons c t ih =>
    simp only [List.cons_append, val, ih, List.length_cons, Nat.pow_succ]
    have : 128 * (128 ^ t.length * (b.toNat % 128)) = 128 ^ t.length * 128 * (b.toNat % 128) := by
      rw [← Nat.mul_assoc, Nat.mul_comm 128]
    omega
theorem val_digs (f z : Nat) (h : z < 128 ^ f) : val (digs f z) = z := by
  induction f generalizing z with
  | zero => simp at h; simp [digs, val, h]
  | succ f ih =>
    unfold digs
    split
    · rename_i hz
      simp only [val]
      rw [toNat_ofNat (by omega)]; omega
    · simp only [val]
      rw [toNat_ofNat (by omega), ih (z / 128) (by rw [Nat.pow_succ] at h; omega)]
      omega
theorem lead_digs (f z : Nat) (h : z < 128 ^ f) (t : List UInt8) : lead (digs f z ++ t) + 1 = (digs f z).length ∨ f = 0 := by
  induction f generalizing z with
  | zero => exact .inr rfl
  | succ f ih =>
    left
    unfold digs
    split
    · rename_i hz
      simp only [List.cons_append, lead]
      rw [toNat_ofNat (by omega), if_pos hz]; simp
    · rename_i hz
      simp only [List.cons_append, lead]
      rw [toNat_ofNat (by omega), if_neg (by omega)]
      have h' : z / 128 < 128 ^ f := by rw [Nat.pow_succ] at h; omega
      rcases ih (z / 128) h' with h1 | h1
      · simp; omega
      · subst h1; simp at h'; omega
theorem last_digs (f z : Nat) (h : z < 128 ^ f) (hz : 128 ≤ z) : 0 < ((digs f z).getD ((digs f z).length - 1) 0).toNat := by
  induction f generalizing z with
  | zero => simp at h; omega
  | succ f ih =>
    unfold digs
    rw [if_neg (by omega)]
    have h' : z / 128 < 128 ^ f := by rw [Nat.pow_succ] at h; omega
    by_cases hs : 128 ≤ z / 128
    · have := ih (z / 128) h' hs
      cases f with
      | zero => simp at h'; omega
      | succ f =>
        have hp := digs_pos f (z / 128)
        rw [List.length_cons, Nat.add_sub_cancel]
        rw [show (digs (f + 1) (z / 128)).length = ((digs (f + 1) (z / 128)).length - 1) + 1 from by omega]
        simpa using this
    · cases f with
      | zero => simp at h'; omega
      | succ f =>
        unfold digs
        rw [if_pos (by omega)]
        simp
        omega
theorem ten_digs (z : Nat) (h : z < 18446744073709551616) (hl : (digs 10 z).length = 10) : ((digs 10 z).getD 9 0).toNat ≤ 1 := by
  have h1 : val (digs 10 z) = z := val_digs 10 z (by omega)
  have e : digs 10 z = (digs 10 z).take 9 ++ [(digs 10 z).getD 9 0] := by
    apply List.ext_getElem
    · simp [hl]
    · intro i h1 h2
      by_cases hi : i < 9
      · rw [List.getElem_append_left (by simp; omega)]; simp
      · have : i = 9 := by omega
        subst this
        rw [List.getElem_append_right (by simp; omega)]
        simp [List.getD_eq_getElem?_getD, hl]
  have hb : lead (digs 10 z ++ []) + 1 = (digs 10 z).length := by
    rcases lead_digs 10 z (by omega) [] with h | h
    · exact h
    · omega
  have hlow : ((digs 10 z).getD 9 0).toNat < 128 := by
    have := lead_low (digs 10 z) (by simp at hb; omega)
    simp only [List.append_nil] at hb
    rwa [show lead (digs 10 z) = 9 from by omega] at this
  rw [e, val_snoc] at h1
  have hl9 : ((digs 10 z).take 9).length = 9 := by simp [hl]
  rw [hl9, Nat.mod_eq_of_lt hlow] at h1
  omega

theorem getD_append_left {α : Type} {l t : List α} {i : Nat} {d : α} (h : i < l.length) : (l ++ t).getD i d = l.getD i d := by
  simp [List.getD_eq_getElem?_getD, List.getElem?_append_left h]

theorem getInt_enc (n : Int) (hn : Fits n) (t : List UInt8) : getInt (enc n ++ t) = (n, (enc n).length, 0) := by
  have hz := zig_lt hn
  have h1 : lead (enc n ++ t) + 1 = (enc n).length := by
    rcases lead_digs 10 (zig n) (by omega) t with h | h
    · exact h
    · omega
  have h2 := enc_len n
  have hg : (enc n ++ t).getD (lead (enc n ++ t)) 0 = (enc n).getD (lead (enc n ++ t)) 0 := getD_append_left (by omega)
  have hb : bad (enc n ++ t) = false := by
    unfold bad
    rw [hg]
    have h3 : lead (enc n ++ t) = (enc n).length - 1 := by omega
    rw [h3]
    rw [Bool.or_eq_false_iff, Bool.and_eq_false_iff, Bool.and_eq_false_iff]
    constructor
    · by_cases h10 : (enc n).length = 10
      · right
        have := ten_digs (zig n) hz h10
        rw [h10]
        simpa [enc] using this
      · left; simp; have := enc_pos n; omega
    · by_cases h10 : (enc n).length = 1
      · left; simp [h10]
      · right
        have hz2 : 128 ≤ zig n := by
          have : (enc n).length = 1 ↔ zig n < 128 := digs_one 8 (zig n)
          omega
        have := last_digs 10 (zig n) (by omega) hz2
        simp only [enc, beq_eq_false_iff_ne, ne_eq]
        omega
  unfold getInt
  rw [if_neg (by omega), if_neg (by simp; omega), hb, if_neg (by simp)]
  have ht : (enc n ++ t).take (lead (enc n ++ t) + 1) = enc n := by rw [h1]; simp
  rw [ht, h1, show val (enc n) = zig n from val_digs 10 _ (by omega), zag_zig]

theorem digs_val (f : Nat) (l : List UInt8) (hf : l.length ≤ f) (hp : 0 < l.length) (h : lead l + 1 = l.length) (hlast : 0 < lead l → 0 < (l.getD (lead l) 0).toNat) : digs f (val l) = l := by
  induction l generalizing f with
  | nil => simp at hp
  | cons b t ih =>
    cases f with
    | zero => simp at hf
    | succ f =>
      by_cases hb : b.toNat < 128
      · have hl : lead (b :: t) = 0 := by unfold lead; rw [if_pos hb]
        have ht : t = [] := by
          rw [hl] at h
          exact List.eq_nil_of_length_eq_zero (by simpa using h.symm)
        subst ht
        simp only [val]
        unfold digs
        rw [Nat.mod_eq_of_lt hb, if_pos (by omega)]
        simp
      · have hl : lead (b :: t) = lead t + 1 := by rw [lead, if_neg hb]
        have ht : lead t + 1 = t.length := by rw [hl] at h; simpa using h
        have hb2 := UInt8.toNat_lt b
        have hlast' : 0 < (t.getD (lead t) 0).toNat := by simpa [hl] using hlast (by omega)
        have hv : 0 < val t := by
          have e : t = t.take (lead t) ++ [t.getD (lead t) 0] := by
            apply List.ext_getElem
            · simp; omega
            · intro i h1 h2
              by_cases hi : i < lead t
              · rw [List.getElem_append_left (by simp; omega)]; simp
              · have : i = lead t := by omega
                subst this
                rw [List.getElem_append_right (by simp; omega)]
                simp [List.getD_eq_getElem?_getD, h1]
          have hlow := lead_low t (by omega)
          rw [e, val_snoc, Nat.mod_eq_of_lt hlow]
          have := Nat.mul_pos (Nat.pow_pos (n := (t.take (lead t)).length) (show 0 < 128 by omega)) hlast'
          omega
        have hi := ih f (by simpa using hf) (by omega) ht (fun _ => hlast')
        simp only [val]
        unfold digs
        rw [if_neg (by omega)]
        rw [show (b.toNat % 128 + 128 * val t) / 128 = val t from by omega, hi]
        rw [show 128 + (b.toNat % 128 + 128 * val t) % 128 = b.toNat from by omega]
        simp

theorem lead_take (l : List UInt8) (h : lead l < l.length) : lead (l.take (lead l + 1)) = lead l := by
  apply lead_eq
  · simp; omega
  · intro i hi
    have := lead_high l i hi
    simpa [List.getD_eq_getElem?_getD, List.getElem?_take, show i < lead l + 1 from by omega] using this
  · intro _
    have := lead_low l h
    simpa [List.getD_eq_getElem?_getD, List.getElem?_take] using this

/-- what is decoded was encoded so -/
theorem getInt_ok {l : List UInt8} {n : Int} {k : Nat} (h : getInt l = (n, k, 0)) : enc n = l.take k ∧ k ≤ l.length ∧ 0 < k ∧ k ≤ 10 ∧ Fits n := by
  unfold getInt at h
  split at h
  · simp at h
  split at h
  · simp at h
  split at h
  · simp at h
  rename_i h1 h2 h3
  simp only [Prod.mk.injEq, and_true] at h
  obtain ⟨rfl, rfl⟩ := h
  have hlt : lead l < l.length := by omega
  have h4 := lead_take l hlt
  have hlen : (l.take (lead l + 1)).length = lead l + 1 := by simp; omega
  have hgd : (l.take (lead l + 1)).getD (lead l) 0 = l.getD (lead l) 0 := by simp [List.getD_eq_getElem?_getD]
  have hbad : bad l = false := by simpa using h3
  unfold bad at hbad
  rw [Bool.or_eq_false_iff, Bool.and_eq_false_iff, Bool.and_eq_false_iff] at hbad
  have hv : val (l.take (lead l + 1)) < 18446744073709551616 := by
    have e : l.take (lead l + 1) = l.take (lead l) ++ [l.getD (lead l) 0] := by
      rw [List.take_succ_eq_append_getElem hlt]
      simp [List.getD_eq_getElem?_getD, hlt]
    have hl9 : (l.take (lead l)).length = lead l := by simp; omega
    have h5 := val_lt (l.take (lead l))
    have h6 := lead_low l hlt
    rw [e, val_snoc, Nat.mod_eq_of_lt h6]
    rw [hl9] at h5 ⊢
    by_cases h9 : lead l = 9
    · have : (l.getD (lead l) 0).toNat ≤ 1 := by
        rcases hbad.1 with h | h
        · simp [h9] at h
        · simpa using h
      rw [h9] at h5 this ⊢
      omega
    · have hp : 128 ^ (lead l) ≤ 128 ^ 8 := Nat.pow_le_pow_right (by omega) (by omega)
      have hm : 128 ^ lead l * (l.getD (lead l) 0).toNat ≤ 128 ^ 8 * 127 := Nat.mul_le_mul hp (by omega)
      omega
  refine ⟨?_, by omega, by omega, by omega, zag_fits hv⟩
  unfold enc
  rw [zig_zag]
  apply digs_val
  · rw [hlen]; omega
  · rw [hlen]; omega
  · rw [h4, hlen]
  · rw [h4, hgd]
    intro hp
    rcases hbad.2 with h | h
    · simp at h; omega
    · simp only [beq_eq_false_iff_ne, ne_eq] at h; omega

theorem getInt_err {l : List UInt8} {n : Int} {k : Nat} {e : Int} (h : getInt l = (n, k, e)) (he : e ≠ 0) : n = 0 ∧ k = 0 ∧ (e = 10 ∨ e = 11) := by
  unfold getInt at h
  (repeat' split at h) <;> simp at h <;> omega
theorem getInt_used (l : List UInt8) : (getInt l).2.1 ≤ l.length ∧ (getInt l).2.1 ≤ 10 := by
  unfold getInt
  (repeat' split) <;> simp; omega
theorem getInt_fits (l : List UInt8) : Fits (getInt l).1 := by
  rcases h : getInt l with ⟨n, k, e⟩
  by_cases he : e = 0
  · subst he; exact (getInt_ok h).2.2.2.2
  · obtain ⟨rfl, _⟩ := getInt_err h he; exact ⟨by omega, by omega⟩

/-- a proper beginning of an encoding -/
theorem getInt_cut (n : Int) (hn : Fits n) (i : Nat) (hi : i < (enc n).length) : getInt ((enc n).take i) = (0, 0, 10) := by
  have hz := zig_lt hn
  have h1 : lead (enc n ++ []) + 1 = (enc n).length := by
    rcases lead_digs 10 (zig n) (by omega) [] with h | h
    · exact h
    · omega
  simp only [List.append_nil] at h1
  have h2 := enc_len n
  have hl : lead ((enc n).take i) = i := by
    apply lead_eq
    · simp; omega
    · intro j hj
      have := lead_high (enc n) j (by omega)
      simpa [List.getD_eq_getElem?_getD, List.getElem?_take, hj] using this
    · intro h; simp at h
      omega
  unfold getInt
  rw [hl, if_neg (by omega), if_pos (by simp; omega)]

theorem enc_inj {m n : Int} (hm : Fits m) (hn : Fits n) {s t : List UInt8} (h : enc m ++ s = enc n ++ t) : m = n := by
  have h1 := getInt_enc m hm s
  have h2 := getInt_enc n hn t
  rw [h, h2] at h1
  exact (Prod.mk.inj h1).1.symm

/-! ### the digits, as the loop finds them -/
def dig (l : List UInt8) : Nat × Nat × Int :=
  if 10 ≤ lead l then (0, 0, 11)
  else if l.length ≤ lead l then (0, 0, 10)
  else if bad l then (0, 0, 11)
  else (val (l.take (lead l + 1)), lead l + 1, 0)
theorem getInt_dig (l : List UInt8) : getInt l = if (dig l).2.2 = 0 then (zag (dig l).1, (dig l).2.1, 0) else (0, 0, (dig l).2.2) := by
  unfold getInt dig
  (repeat' split) <;> simp_all
theorem dig_lt (l : List UInt8) : (dig l).1 < 18446744073709551616 ∧ (dig l).2.1 ≤ 10 := by
  have h := getInt_dig l
  by_cases h0 : (dig l).2.2 = 0
  · rw [if_pos h0] at h
    obtain ⟨h1, _, _, h4, h5⟩ := getInt_ok h
    have := zig_lt h5
    rw [zig_zag] at this
    exact ⟨this, h4⟩
  · have : (dig l).1 = 0 ∧ (dig l).2.1 = 0 := by
      revert h0
      unfold dig
      (repeat' split) <;> simp
    omega
theorem dig_ten {l : List UInt8} (hl : 10 ≤ l.length) (hh : ∀ j, j < 10 → 128 ≤ (l.getD j 0).toNat) : dig l = (0, 0, 11) := by
  have : 10 ≤ lead l := by
    rcases Nat.lt_or_ge (lead l) 10 with h | h
    · have := lead_low l (by omega)
      have := hh _ h
      omega
    · exact h
  unfold dig
  rw [if_pos this]
theorem dig_short {l : List UInt8} (hl : l.length ≠ 10) (hle : l.length ≤ 10) (hh : ∀ j, j < l.length → 128 ≤ (l.getD j 0).toNat) : dig l = (0, 0, 10) := by
  have : lead l = l.length := lead_eq (Nat.le_refl _) hh (by omega)
  unfold dig
  rw [if_neg (by omega), if_pos (by omega)]
theorem dig_bad {l : List UInt8} {k : Nat} (hk : k < l.length) (h9 : k ≤ 9) (hh : ∀ j, j < k → 128 ≤ (l.getD j 0).toNat) (hb : (l.getD k 0).toNat < 128)
    (h : (k = 9 ∧ 1 < (l.getD k 0).toNat) ∨ (0 < k ∧ (l.getD k 0).toNat = 0)) : dig l = (0, 0, 11) := by
  have e : lead l = k := lead_eq (by omega) hh (fun _ => hb)
  have hbad : bad l = true := by
    unfold bad
    rw [e]
    rcases h with h | h
    · simp only [h.1, beq_self_eq_true, Bool.true_and, Bool.or_eq_true, decide_eq_true_eq]; exact .inl (by rw [← h.1]; exact h.2)
    · simp only [Bool.or_eq_true, Bool.and_eq_true, decide_eq_true_eq, beq_iff_eq]; exact .inr h
  unfold dig
  rw [if_neg (by omega), if_neg (by omega), if_pos hbad]
theorem dig_good {l : List UInt8} {k : Nat} (hk : k < l.length) (h9 : k ≤ 9) (hh : ∀ j, j < k → 128 ≤ (l.getD j 0).toNat) (hb : (l.getD k 0).toNat < 128)
    (h1 : k = 9 → (l.getD k 0).toNat ≤ 1) (h2 : 0 < k → (l.getD k 0).toNat ≠ 0) : dig l = (val (l.take k) + (l.getD k 0).toNat * 128 ^ k, k + 1, 0) := by
  have e : lead l = k := lead_eq (by omega) hh (fun _ => hb)
  have hbad : bad l = false := by
    unfold bad
    rw [e, Bool.or_eq_false_iff, Bool.and_eq_false_iff, Bool.and_eq_false_iff]
    refine ⟨?_, ?_⟩
    · by_cases h : k = 9
      · right; have := h1 h; simpa using this
      · left; simpa using h
    · by_cases h : 0 < k
      · right; have := h2 h; simp only [beq_eq_false_iff_ne, ne_eq]; exact this
      · left; simpa using h
  unfold dig
  rw [if_neg (by omega), if_neg (by omega), hbad, if_neg (by simp), e]
  have e2 : l.take (k + 1) = l.take k ++ [l.getD k 0] := by
    rw [List.take_succ_eq_append_getElem hk]
    simp [List.getD_eq_getElem?_getD, hk]
  rw [e2, val_snoc, Nat.mod_eq_of_lt hb, show (l.take k).length = k from by simp; omega, Nat.mul_comm (128 ^ k)]
theorem val_step {l : List UInt8} {k : Nat} (hk : k < l.length) (hb : 128 ≤ (l.getD k 0).toNat) : val (l.take (k + 1)) = val (l.take k) + ((l.getD k 0).toNat - 128) * 128 ^ k := by
  have e2 : l.take (k + 1) = l.take k ++ [l.getD k 0] := by
    rw [List.take_succ_eq_append_getElem hk]
    simp [List.getD_eq_getElem?_getD, hk]
  have hb2 := UInt8.toNat_lt (l.getD k 0)
  rw [e2, val_snoc, show (l.take k).length = k from by simp; omega, Nat.mul_comm (128 ^ k), show (l.getD k 0).toNat % 128 = (l.getD k 0).toNat - 128 from by omega]
theorem val_take_lt {l : List UInt8} {k : Nat} (hk : k ≤ l.length) : val (l.take k) < 128 ^ k := by
  have := val_lt (l.take k)
  rwa [show (l.take k).length = k from by simp; omega] at this

/-! ### lengths, byte strings, lists -/
def getLen (l : List UInt8) (u : Nat) : Int × Nat × Int :=
  let r := getInt l
  if r.2.2 ≠ 0 then (0, 0, r.2.2) else if r.1 < 0 then (0, 0, 11) else if (((l.length - r.2.1) / u : Nat) : Int) < r.1 then (0, 0, 10) else (r.1, r.2.1, 0)
def encBytes (s : List UInt8) : List UInt8 := enc s.length ++ s
def getBytes (l : List UInt8) : List UInt8 × Nat × Int :=
  let r := getLen l 1
  if r.2.2 ≠ 0 then ([], 0, r.2.2) else ((l.drop r.2.1).take r.1.toNat, r.2.1 + r.1.toNat, 0)
def getSome {α : Type} (get : List UInt8 → α × Nat × Int) (l : List UInt8) : Nat → Nat → List α → List α × Nat × Int
  | 0, at_, acc => (acc, at_, 0)
  | n + 1, at_, acc =>
    let r := get (l.drop at_)
    if r.2.2 ≠ 0 then ([], 0, r.2.2) else getSome get l n (at_ + r.2.1) (acc ++ [r.1])
def getList {α : Type} (get : List UInt8 → α × Nat × Int) (u : Nat) (l : List UInt8) : List α × Nat × Int :=
  let r := getLen l u
  if r.2.2 ≠ 0 then ([], 0, r.2.2) else getSome get l r.1.toNat r.2.1 []
def encList {α : Type} (f : α → List UInt8) (xs : List α) : List UInt8 := enc xs.length ++ xs.flatMap f
def getDigest (l : List UInt8) : List UInt8 × Nat × Int := (l.take 16, 16, 0)

theorem getLen_ok {l : List UInt8} {u : Nat} {n : Int} {k : Nat} (h : getLen l u = (n, k, 0)) : getInt l = (n, k, 0) ∧ 0 ≤ n ∧ n ≤ (((l.length - k) / u : Nat) : Int) ∧ k ≤ l.length := by
  unfold getLen at h
  rcases hg : getInt l with ⟨m, j, x⟩
  have hu := (getInt_used l).1
  rw [hg] at h hu
  simp only at h hu
  by_cases hx : x = 0
  · subst hx
    rw [if_neg (by simp)] at h
    split at h
    · simp at h
    split at h
    · simp at h
    · simp only [Prod.mk.injEq, and_true] at h
      obtain ⟨rfl, rfl⟩ := h
      exact ⟨rfl, by omega, by omega, hu⟩
  · rw [if_pos hx] at h
    simp at h
    omega
theorem getLen_err {l : List UInt8} {u : Nat} {n : Int} {k : Nat} {x : Int} (h : getLen l u = (n, k, x)) (hx : x ≠ 0) : n = 0 ∧ k = 0 ∧ (x = 10 ∨ x = 11) := by
  unfold getLen at h
  rcases hg : getInt l with ⟨m, j, y⟩
  rw [hg] at h
  simp only at h
  by_cases hy : y = 0
  · subst hy
    rw [if_neg (by simp)] at h
    split at h
    · simp at h; omega
    split at h
    · simp at h; omega
    · simp at h; omega
  · rw [if_pos hy] at h
    have := getInt_err hg hy
    simp at h
    omega

theorem take_flat {α β : Type} (f : α → List β) (xs : List α) (k : Nat) (x : α) (h : xs[k]? = some x) : (xs.take (k + 1)).flatMap f = (xs.take k).flatMap f ++ f x := by
  obtain ⟨hk, rfl⟩ := List.getElem?_eq_some_iff.1 h
  rw [List.take_succ_eq_append_getElem hk, List.flatMap_append, List.flatMap_cons, List.flatMap_nil, List.append_nil]
theorem flat_len {α β : Type} (f : α → List β) (m : Nat) (xs : List α) (h : ∀ x ∈ xs, (f x).length ≤ m) : (xs.flatMap f).length ≤ xs.length * m := by
  induction xs with
  | nil => simp
  | cons x xs ih =>
    have h1 := h x (by simp)
    have h2 := ih (fun y hy => h y (by simp [hy]))
    rw [List.flatMap_cons, List.length_append, List.length_cons, Nat.succ_mul]
    omega
theorem flat_take_len {α β : Type} (f : α → List β) (xs : List α) (k : Nat) : ((xs.take k).flatMap f).length ≤ (xs.flatMap f).length := by
  have : (xs.take k).flatMap f ++ (xs.drop k).flatMap f = xs.flatMap f := by rw [← List.flatMap_append, List.take_append_drop]
  have := congrArg List.length this
  rw [List.length_append] at this
  omega

theorem getBytes_used (l : List UInt8) : (getBytes l).2.1 ≤ l.length := by
  unfold getBytes
  rcases hg : getLen l 1 with ⟨n, k, x⟩
  by_cases hx : x = 0
  · subst hx
    obtain ⟨_, h1, h2, h3⟩ := getLen_ok hg
    rw [Nat.div_one] at h2
    simp
    omega
  · simp [hx]
end Go.Proofs.Ytbkgbjimooobbaa.Wm

namespace Go.Proofs.Ytbkgbjimooobbaa.Wm

theorem getLen_enc (n u : Nat) (hn : n ≤ 9223372036854775807) (t : List UInt8) (hu : n ≤ t.length / u) : getLen (enc n ++ t) u = ((n : Int), (enc n).length, 0) := by
  unfold getLen
  rw [getInt_enc n ⟨by omega, by omega⟩ t]
  simp only [ne_eq, not_true_eq_false, if_false]
  rw [if_neg (by omega), if_neg (by rw [List.length_append, Nat.add_sub_cancel_left]; omega)]

theorem getBytes_enc (s t : List UInt8) (hs : s.length ≤ 9223372036854775807) : getBytes (encBytes s ++ t) = (s, (encBytes s).length, 0) := by
  have h := getLen_enc s.length 1 hs (s ++ t) (by rw [Nat.div_one, List.length_append]; omega)
  unfold getBytes encBytes
  rw [List.append_assoc, h]
  simp

theorem getDigest_enc (d t : List UInt8) (hd : d.length = 16) : getDigest (d ++ t) = (d, d.length, 0) := by
  unfold getDigest
  rw [List.take_append_of_le_length (by omega), List.take_of_length_le (by omega), hd]

section
variable {α : Type} {get : List UInt8 → α × Nat × Int} {f : α → List UInt8}
theorem getSome_enc (xs : List α) (hget : ∀ x ∈ xs, ∀ t, get (f x ++ t) = (x, (f x).length, 0)) (pre t : List UInt8) (acc : List α) :
    getSome get (pre ++ (xs.flatMap f ++ t)) xs.length pre.length acc = (acc ++ xs, pre.length + (xs.flatMap f).length, 0) := by
  induction xs generalizing pre acc with
  | nil => simp [getSome]
  | cons x xs ih =>
    have h1 : (pre ++ ((x :: xs).flatMap f ++ t)).drop pre.length = f x ++ (xs.flatMap f ++ t) := by
      rw [List.drop_left, List.flatMap_cons, List.append_assoc]
    rw [List.length_cons, getSome, h1, hget x (by simp)]
    simp only [ne_eq, not_true_eq_false, if_false]
    have h2 := ih (fun y hy => hget y (by simp [hy])) (pre ++ f x) (acc ++ [x])
    rw [List.length_append] at h2
    rw [List.flatMap_cons, List.append_assoc, ← List.append_assoc pre, h2]
    simp [Nat.add_assoc]
theorem flat_ge (u : Nat) (xs : List α) (h : ∀ x ∈ xs, u ≤ (f x).length) : xs.length * u ≤ (xs.flatMap f).length := by
  induction xs with
  | nil => simp
  | cons x xs ih =>
    have h1 := h x (by simp)
    have h2 := ih (fun y hy => h y (by simp [hy]))
    rw [List.flatMap_cons, List.length_append, List.length_cons, Nat.succ_mul]
    omega
theorem getList_enc (u : Nat) (hu : 0 < u) (xs : List α) (hn : xs.length ≤ 9223372036854775807) (hge : ∀ x ∈ xs, u ≤ (f x).length) (hget : ∀ x ∈ xs, ∀ t, get (f x ++ t) = (x, (f x).length, 0)) (t : List UInt8) :
    getList get u (encList f xs ++ t) = (xs, (encList f xs).length, 0) := by
  have h := getLen_enc xs.length u hn (xs.flatMap f ++ t) (by
    rw [Nat.le_div_iff_mul_le hu, List.length_append]
    have := flat_ge u xs hge
    omega)
  unfold getList encList
  rw [List.append_assoc, h]
  simp only [ne_eq, not_true_eq_false, if_false, Int.toNat_natCast]
  rw [getSome_enc xs hget]
  simp

/-- what is decoded was encoded so -/
theorem getSome_ok (l : List UInt8) (P : Nat → Prop) (hP : ∀ a k, P a → P (a + k) ∨ True) (hget : ∀ a x k, a ≤ l.length → get (l.drop a) = (x, k, 0) → f x = (l.drop a).take k ∧ a + k ≤ l.length) :
    ∀ (n a : Nat) (acc r : List α) (k : Nat), a ≤ l.length → getSome get l n a acc = (r, k, 0) → ∃ xs, r = acc ++ xs ∧ xs.length = n ∧ a ≤ k ∧ k ≤ l.length ∧ xs.flatMap f = (l.drop a).take (k - a)
  | 0, a, acc, r, k, ha, h => by
    simp only [getSome, Prod.mk.injEq, and_true] at h
    obtain ⟨rfl, rfl⟩ := h
    exact ⟨[], by simp, rfl, Nat.le_refl _, ha, by simp⟩
  | n + 1, a, acc, r, k, ha, h => by
    rw [getSome] at h
    rcases hg : get (l.drop a) with ⟨x, j, e⟩
    rw [hg] at h
    simp only at h
    by_cases he : e = 0
    · subst he
      rw [if_neg (by simp)] at h
      obtain ⟨h1, h2⟩ := hget a x j ha hg
      obtain ⟨xs, g1, g2, g3, g4, g5⟩ := getSome_ok l P hP hget n (a + j) (acc ++ [x]) r k h2 h
      refine ⟨x :: xs, by rw [g1]; simp, by simp [g2], by omega, g4, ?_⟩
      rw [List.flatMap_cons, h1, g5]
      have : (l.drop a).take (k - a) = (l.drop a).take j ++ ((l.drop a).drop j).take (k - a - j) := by
        rw [← List.take_add]
        congr 1
        omega
      rw [this, List.drop_drop]
      congr 2
      omega
    · rw [if_pos he] at h
      simp at h
      exact absurd h.2.2 he
theorem getList_ok (u : Nat) (l : List UInt8) (hget : ∀ a x k, a ≤ l.length → get (l.drop a) = (x, k, 0) → f x = (l.drop a).take k ∧ a + k ≤ l.length) {r : List α} {k : Nat} (h : getList get u l = (r, k, 0)) :
    encList f r = l.take k ∧ k ≤ l.length := by
  unfold getList at h
  rcases hg : getLen l u with ⟨n, j, e⟩
  rw [hg] at h
  simp only at h
  by_cases he : e = 0
  · subst he
    rw [if_neg (by simp)] at h
    obtain ⟨h1, h2, h3, h4⟩ := getLen_ok hg
    obtain ⟨xs, g1, g2, g3, g4, g5⟩ := getSome_ok l (fun _ => True) (fun _ _ _ => .inr trivial) hget _ _ _ _ _ h4 h
    obtain ⟨e1, e2, _⟩ := getInt_ok h1
    rw [List.nil_append] at g1
    subst g1
    refine ⟨?_, g4⟩
    unfold encList
    rw [g2, Int.toNat_of_nonneg h2, e1, g5]
    rw [← List.take_append_drop j (l.take k)]
    congr 1
    · rw [List.take_take, Nat.min_eq_left g3]
    · rw [List.drop_take]
  · rw [if_pos he] at h
    simp at h
    exact absurd h.2.2 he

/-- a proper beginning -/
theorem getSome_cut (hpos : ∀ x : α, 0 < (f x).length) : ∀ (xs : List α) (_ : ∀ x ∈ xs, ∀ t, get (f x ++ t) = (x, (f x).length, 0)) (_ : ∀ x ∈ xs, ∀ i, i < (f x).length → (get ((f x).take i)).2.2 = 10) (pre : List UInt8) (acc : List α) (i : Nat),
    i < (xs.flatMap f).length → getSome get (pre ++ (xs.flatMap f).take i) xs.length pre.length acc = ([], 0, 10)
  | [], _, _, _, _, i, h => by simp at h
  | x :: xs, hget, hcut, pre, acc, i, h => by
    rw [List.length_cons, getSome, List.drop_left, List.flatMap_cons]
    by_cases hi : i < (f x).length
    · rw [List.take_append_of_le_length (by omega), hcut x (by simp) i hi]
      simp
    · have e : (f x ++ xs.flatMap f).take i = f x ++ (xs.flatMap f).take (i - (f x).length) := by
        rw [List.take_append, List.take_of_length_le (by omega)]
      rw [e, hget x (by simp)]
      simp only [ne_eq, not_true_eq_false, if_false]
      have ih := getSome_cut hpos xs (fun y hy => hget y (by simp [hy])) (fun y hy => hcut y (by simp [hy])) (pre ++ f x) (acc ++ [x]) (i - (f x).length) (by
        rw [List.flatMap_cons, List.length_append] at h; omega)
      rw [List.length_append] at ih
      rw [← List.append_assoc]
      exact ih
theorem getList_cut (hpos : ∀ x : α, 0 < (f x).length) (u : Nat) (xs : List α) (hn : xs.length ≤ 9223372036854775807) (hget : ∀ x ∈ xs, ∀ t, get (f x ++ t) = (x, (f x).length, 0)) (hcut : ∀ x ∈ xs, ∀ i, i < (f x).length → (get ((f x).take i)).2.2 = 10)
    (i : Nat) (hi : i < (encList f xs).length) : (getList get u ((encList f xs).take i)).2.2 = 10 := by
  have hf : Fits (xs.length : Int) := ⟨by omega, by omega⟩
  unfold encList at hi ⊢
  by_cases h1 : i < (enc xs.length).length
  · rw [List.take_append_of_le_length (by omega)]
    unfold getList getLen
    rw [getInt_cut _ hf i h1]
    simp
  · rw [List.take_append, List.take_of_length_le (by omega)]
    rw [List.length_append] at hi
    generalize hj : i - (enc xs.length).length = j
    have hj' : j < (xs.flatMap f).length := by omega
    by_cases hlt : xs.length ≤ ((xs.flatMap f).take j).length / u
    · unfold getList
      rw [getLen_enc xs.length u hn _ hlt]
      simp only [ne_eq, not_true_eq_false, if_false, Int.toNat_natCast]
      rw [getSome_cut hpos xs hget hcut _ _ j hj']
    · have hl : getLen (enc xs.length ++ (xs.flatMap f).take j) u = (0, 0, 10) := by
        unfold getLen
        rw [getInt_enc _ hf]
        simp only [ne_eq, not_true_eq_false, if_false]
        rw [if_neg (by omega), if_pos (by rw [List.length_append, Nat.add_sub_cancel_left]; omega)]
      unfold getList
      rw [hl]
      simp
end
theorem getBytes_cut (s : List UInt8) (hs : s.length ≤ 9223372036854775807) (i : Nat) (hi : i < (encBytes s).length) : (getBytes ((encBytes s).take i)).2.2 = 10 := by
  have hf : Fits (s.length : Int) := ⟨by omega, by omega⟩
  unfold encBytes at hi ⊢
  by_cases h1 : i < (enc s.length).length
  · rw [List.take_append_of_le_length (by omega)]
    unfold getBytes getLen
    rw [getInt_cut _ hf i h1]
    simp
  · rw [List.take_append, List.take_of_length_le (by omega)]
    rw [List.length_append] at hi
    have hl : getLen (enc s.length ++ s.take (i - (enc s.length).length)) 1 = (0, 0, 10) := by
      unfold getLen
      rw [getInt_enc _ hf]
      simp only [ne_eq, not_true_eq_false, if_false]
      rw [if_neg (by omega), if_pos (by rw [List.length_append, Nat.add_sub_cancel_left, Nat.div_one, List.length_take]; omega)]
    unfold getBytes
    rw [hl]
    simp
theorem getBytes_ok {l : List UInt8} {s : List UInt8} {k : Nat} (h : getBytes l = (s, k, 0)) : encBytes s = l.take k ∧ k ≤ l.length := by
  unfold getBytes at h
  rcases hg : getLen l 1 with ⟨n, j, e⟩
  rw [hg] at h
  simp only at h
  by_cases he : e = 0
  · subst he
    rw [if_neg (by simp)] at h
    obtain ⟨h1, h2, h3, h4⟩ := getLen_ok hg
    simp only [Prod.mk.injEq, and_true] at h
    obtain ⟨rfl, rfl⟩ := h
    obtain ⟨e1, e2, _⟩ := getInt_ok h1
    rw [Nat.div_one] at h3
    have hlen : ((l.drop j).take n.toNat).length = n.toNat := by rw [List.length_take, List.length_drop]; omega
    refine ⟨?_, by omega⟩
    unfold encBytes
    rw [hlen, Int.toNat_of_nonneg h2, e1, ← List.take_add]
  · rw [if_pos he] at h
    simp at h
    exact absurd h.2.2 he
end Go.Proofs.Ytbkgbjimooobbaa.Wm
