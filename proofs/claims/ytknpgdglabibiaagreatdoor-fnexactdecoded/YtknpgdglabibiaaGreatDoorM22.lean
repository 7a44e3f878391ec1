/- Contracts of attrAt and ValueIn of the program. Plain mathematics of reading a time: the fields of a text, their numbers, the one time of which a text is made. Contracts of what TimeOf calls: digits read, days ahead of a month. -/
import Derived.Test.YtknpgdglabibiaaGreatDoorM1
import Derived.Test.YtknpgdglabibiaaGreatDoorM5
import Derived.Test.YtknpgdglabibiaaGreatDoorM19
import Derived.Test.YtknpgdglabibiaaGreatDoorM18
namespace Go.Proofs.YtknpgdglabibiaaGreatDoor
open Go.RowKit
set_option linter.unusedVariables false
set_option linter.unusedSimpArgs false

/-- Where the first with this name stands, or -1. -/
def IdxIs (l : List At) (name : ByteArray) (r : Int) : Prop :=
  (r = -1 ∧ ∀ x ∈ l, ¬ x.name = name) ∨ ∃ i : Nat, ∃ h : i < l.length, r = (i : Int) ∧ l[i].name = name ∧ ∀ x ∈ l.take i, ¬ x.name = name

theorem cell_alloc {w : World} {p : Addr} {v : Value} (h : w.cell? p = some v) (hp : p.block < w.heap.size) (o : Obj) : (w.alloc o).cell? p = some v :=
  (((Below.refl w.heap.size w).alloc (Nat.le_refl _) o).cell hp).trans h

set_option maxHeartbeats 1000000 in
theorem cAttrAt1 (n v name : ByteArray) (b o : Nat) (w : World) (hp : b < w.heap.size) (hc : w.cell? ⟨b, o, none⟩ = some (.string name)) (hn : n.size ≤ 1048576) (hm : name.size ≤ 1048576) :
    Calls Tryz.prog 125 #[.agg #[.string n, .string v], .pointer (some ⟨b, o, none⟩)] w fun e w' => e = .returned (.bool (decide (n = name))) ∧ Below w.heap.size w w' := by
  have HB0 := hid ((Below.refl w.heap.size w).alloc (Nat.le_refl _) (.cells #[.string n, .string v] 68))
  have c1 := cell_alloc hc hp (.cells #[.string n, .string v] 68)
  have hd := str_beq n name
  generalize decide (n = name) = D at hd ⊢
  clear hc
  go_enter Tryz.func125, Tryz.ntmps125
  go_wp2
  go_ret
  exact ⟨rfl, HB0.out⟩

set_option maxHeartbeats 1000000 in
theorem cIndexFunc (a : Option Addr) (cap : Nat) (l : List At) (name : ByteArray) (b0 o0 : Nat) (w : World) (hR : AtRow w a l) (hz : AtSz 1048576 l) (hn : l.length ≤ 1048576) (hm : name.size ≤ 1048576)
    (hp : b0 < w.heap.size) (hc : w.cell? ⟨b0, o0, none⟩ = some (.string name)) :
    Calls Tryz.prog 124 #[.slice a l.length cap, .func (.func 125) #[] #[.pointer (some ⟨b0, o0, none⟩)]] w fun e w' => ∃ r : Int, e = .returned (.int .i64 r) ∧ IdxIs l name r ∧ Below w.heap.size w w' := by
  have HR := hid hR
  have HZ := hid hz
  have HC := hid hc
  have HP := hid hp
  clear hR hz hc hp
  obtain ⟨n, hnn⟩ : ∃ n, l.length = n := ⟨_, rfl⟩
  have HN := hid hnn
  rw [hnn] at hn ⊢
  clear hnn
  go_enter Tryz.func124, Tryz.ntmps124
  go_wp2
  go_loopw [8] (fun k wr => ∃ i : Nat, k = .int .i64 (i : Int) ∧ i ≤ n ∧ Hid (∀ x ∈ l.take i, ¬ x.name = name) ∧ Hid (Below w.heap.size w wr)) (fun k _ => n - (intOf k).toNat)
  case atStart => exact ⟨0, rfl, Nat.zero_le _, fun x hx => by simp at hx, Below.refl _ _⟩
  case round =>
    obtain ⟨i, rfl, hi, HO, HB⟩ := hrel
    by_cases hlt : i < n
    · have his : i < l.length := by rw [HN.out]; exact hlt
      obtain ⟨b, o, rfl, hb, c1, c2⟩ := HR.out.below HB.out i his
      have hin : (i : Int) < (n : Int) := by omega
      have HT := hid (take_snocN his)
      have z1 := (HZ.out _ (List.getElem_mem his)).1
      have HS := hid HB.out.size
      have HCr := hid ((HB.out.cell (p := ⟨b0, o0, none⟩) HP.out).trans HC.out)
      have C := hid (cAttrAt1 l[i].name l[i].value name b0 o0 wr (Nat.lt_of_lt_of_le HP.out HS.out) HCr.out z1 hm)
      by_cases hq : l[i].name = name
      · have HI := hid (show IdxIs l name (i : Int) from .inr ⟨i, his, rfl, hq, HO.out⟩)
        have e0 : decide (l[i].name = name) = true := decide_eq_true hq
        rw [e0] at C
        generalize l[i].name = x at *
        generalize l[i].value = y at *
        clear hq e0
        go_wp2_with fail
        refine C.out.mono ?_
        rintro e w1 ⟨rfl, hb1⟩
        have HB1 := hid (bb HB.out hb1)
        go_wp2
        go_ret
        exact ⟨_, rfl, HI.out, HB1.out⟩
      · have HO2 := hid (show ∀ x ∈ l.take (i + 1), ¬ x.name = name by
          rw [HT.out]
          intro x hx
          rcases List.mem_append.1 hx with h | h
          · exact HO.out x h
          · rw [List.mem_singleton] at h
            subst h
            exact hq)
        have e0 : decide (l[i].name = name) = false := decide_eq_false hq
        rw [e0] at C
        generalize l[i].name = x at *
        generalize l[i].value = y at *
        clear hq e0
        go_wp2_with fail
        refine C.out.mono ?_
        rintro e w1 ⟨rfl, hb1⟩
        have HB1 := hid (bb HB.out hb1)
        go_wp2
        go_roundw
        case rel => exact ⟨i + 1, by go_num, by omega, HO2.out, HB1.out⟩
        case measure => simp [intOf]; omega
    · have hie : i = n := by omega
      subst hie
      have h1 := HO.out
      rw [List.take_of_length_le (by rw [HN.out]; exact Nat.le_refl _)] at h1
      have HI := hid (show IdxIs l name (-1) from .inl ⟨rfl, h1⟩)
      clear h1
      go_wp2
      go_ret
      exact ⟨_, rfl, HI.out, HB.out⟩

set_option maxHeartbeats 1000000 in
theorem cAttrAt (a : Option Addr) (cap : Nat) (l : List At) (name : ByteArray) (w : World) (hR : AtRow w a l) (hz : AtSz 1048576 l) (hn : l.length ≤ 1048576) (hm : name.size ≤ 1048576) :
    Calls Tryz.prog 99 #[.slice a l.length cap, .string name] w fun e w' => ∃ r : Int, e = .returned (.int .i64 r) ∧ IdxIs l name r ∧ Below w.heap.size w w' := by
  have hmf : ∀ (fn : Fn) (first cap : Array Value) (w : World), (Instr.makeFunc fn first cap).run Tryz.prog w = .ok (.func fn first cap) w := fun _ _ _ _ => rfl
  have HB0 := hid ((Below.refl w.heap.size w).alloc (Nat.le_refl _) (.cells #[.string name] 9))
  have C := hid (cIndexFunc a cap l name w.heap.size 0 (w.alloc (.cells #[.string name] 9)) (hR.below HB0.out) hz hn hm (by simp) (by simp [go_sem]))
  clear hR hz
  generalize l.length = n at *
  go_enter Tryz.func99, Tryz.ntmps99
  go_wp2_with fail
  refine C.out.mono ?_
  rintro e w1 ⟨r, rfl, hr, hb1⟩
  have HI := hid hr
  have HB1 := hid (bb HB0.out hb1)
  clear hr hb1
  go_wp2
  go_ret
  exact ⟨_, rfl, HI.out, HB1.out⟩

set_option maxHeartbeats 1000000 in
theorem cValueInI (a : Option Addr) (cap : Nat) (l : List At) (name : ByteArray) (w : World) (hR : AtRow w a l) (hz : AtSz 1048576 l) (hn : l.length ≤ 1048576) (hm : name.size ≤ 1048576) :
    Calls Tryz.prog 48 #[.slice a l.length cap, .string name] w fun e w' => e = .returned (.tuple #[.string ((valF l name).getD ByteArray.empty), .bool (valF l name).isSome]) ∧ Below w.heap.size w w' := by
  have C := hid (cAttrAt a cap l name w hR hz hn hm)
  have HR := hid hR
  have HZ := hid hz
  obtain ⟨V, hV⟩ : ∃ V, valF l name = V := ⟨_, rfl⟩
  have HV := hid hV
  rw [hV]
  clear hR hz hV
  obtain ⟨n, hnn⟩ : ∃ n, l.length = n := ⟨_, rfl⟩
  have HN := hid hnn
  rw [hnn] at hn C ⊢
  clear hnn
  go_enter Tryz.func48, Tryz.ntmps48
  go_wp2_with fail
  refine C.out.mono ?_
  rintro e w1 ⟨r, rfl, hr, hb1⟩
  have HB1 := hid hb1
  rcases hr with ⟨rfl, h1⟩ | ⟨i, hi, rfl, hq, h1⟩
  · have hv := valF_none h1
    rw [HV.out] at hv
    have HW := hid hv
    clear h1 hv hb1 C
    go_wp2
    go_ret2
    exact ⟨by rw [HW.out]; rfl, HB1.out⟩
  · have hv := valF_at hi h1 hq
    rw [HV.out] at hv
    have HW := hid hv
    obtain ⟨b, o, rfl, hb, c1, c2⟩ := HR.out.below HB1.out i hi
    have hin : (i : Int) < (n : Int) := by have := HN.out; omega
    have z2 := (HZ.out _ (List.getElem_mem hi)).2
    have CC := fun w => c_strings_Clone l[i].value w z2
    clear h1 hv hb1 C hq
    generalize l[i].name = x at *
    generalize l[i].value = y at *
    go_wp2_with fail
    refine (CC _).mono ?_
    rintro e w2 ⟨rfl, hb2⟩
    have HB2 := hid (bb HB1.out hb2)
    clear hb2 CC
    go_wp2
    go_ret2
    exact ⟨by rw [HW.out]; rfl, HB2.out⟩

end Go.Proofs.YtknpgdglabibiaaGreatDoor

namespace Go.Proofs.YtknpgdglabibiaaGreatDoor

def isDig (c : UInt8) : Bool := decide (48 ≤ c.toNat) && decide (c.toNat ≤ 57)

def valD (l : List UInt8) : Nat := l.foldl (fun n c => 10 * n + (c.toNat - 48)) 0

/-- The number that digits tell; -1 of others. -/
def rdI (l : List UInt8) : Int := if l.all isDig = true then (valD l : Int) else -1

theorem valD_snoc (l : List UInt8) (c : UInt8) : valD (l ++ [c]) = 10 * valD l + (c.toNat - 48) := by
  unfold valD
  rw [List.foldl_append]
  rfl

theorem fold_lt : ∀ (l : List UInt8) (n : Nat), l.all isDig = true → l.foldl (fun n c => 10 * n + (c.toNat - 48)) n < (n + 1) * 10 ^ l.length
  | [], n, _ => by simp
  | c :: l, n, h => by
    simp only [List.all_cons, Bool.and_eq_true] at h
    have hc : c.toNat - 48 ≤ 9 := by
      have := h.1
      unfold isDig at this
      simp at this
      omega
    have ih := fold_lt l (10 * n + (c.toNat - 48)) h.2
    rw [List.foldl_cons, List.length_cons, Nat.pow_succ]
    have : (10 * n + (c.toNat - 48) + 1) * 10 ^ l.length ≤ (10 * n + 10) * 10 ^ l.length := Nat.mul_le_mul_right _ (by omega)
    have e : (n + 1) * (10 ^ l.length * 10) = (10 * n + 10) * 10 ^ l.length := by
      rw [Nat.mul_comm (10 ^ l.length) 10, ← Nat.mul_assoc]
      congr 1
      omega
    omega

theorem valD_lt (l : List UInt8) (h : l.all isDig = true) : valD l < 10 ^ l.length := by
  have := fold_lt l 0 h
  unfold valD
  simpa using this

theorem rdI_bounds (l : List UInt8) : -1 ≤ rdI l ∧ rdI l < 10 ^ l.length := by
  unfold rdI
  split
  · rename_i h
    have := valD_lt l h
    refine ⟨by omega, ?_⟩
    exact_mod_cast this
  · have : (0 : Int) < 10 ^ l.length := Int.pow_pos (by decide)
    omega

theorem dig_dgt {n : Nat} (h : n < 10) : isDig (dgt n) = true := by
  unfold isDig
  rw [dgt_toNat n h]
  simp
  omega

theorem rdI_two {n : Nat} (h : n < 100) : rdI (two n) = n := by
  have h1 : n / 10 < 10 := by omega
  have h2 : n % 10 < 10 := by omega
  unfold rdI
  rw [if_pos (by simp only [two, List.all_cons, List.all_nil, dig_dgt h1, dig_dgt h2]; rfl)]
  simp only [valD, two, List.foldl_cons, List.foldl_nil, dgt_toNat _ h1, dgt_toNat _ h2]
  omega

theorem rdI_year {k : Nat} (h : k < 100) : rdI ([50, 48] ++ two k) = 2000 + k := by
  have h1 : k / 10 < 10 := by omega
  have h2 : k % 10 < 10 := by omega
  have a : isDig 50 = true := by decide
  have b : isDig 48 = true := by decide
  unfold rdI
  rw [if_pos (by simp only [two, List.cons_append, List.nil_append, List.all_cons, List.all_nil, dig_dgt h1, dig_dgt h2, a, b]; rfl)]
  simp only [valD, two, List.cons_append, List.nil_append, List.foldl_cons, List.foldl_nil, dgt_toNat _ h1, dgt_toNat _ h2]
  have c : (50 : UInt8).toNat = 50 := rfl
  have d : (48 : UInt8).toNat = 48 := rfl
  rw [c, d]
  omega

/-- Where field q begins, and how wide it is. -/
def off (q : Nat) : Nat := if q = 0 then 0 else 3 * q + 2
def wid (q : Nat) : Nat := if q = 0 then 4 else 2
def fieldL (l : List UInt8) (q : Nat) : List UInt8 := (l.drop (off q)).take (wid q)

/-- The time of these six numbers, if there is one. -/
def cand (k m : Nat) (n2 n3 n4 n5 : Int) : Int := ((yb k + mb (lp k) m : Nat) + n2 - 1) * 86400 + n3 * 3600 + n4 * 60 + n5

theorem text_fields {t : Nat} {l : List UInt8} (ht : t ≤ 3155759999) (h : textOf t = l) :
    ∃ k m dd : Nat, IsDate (t / 86400) k m dd ∧ rdI (fieldL l 0) = 2000 + k ∧ rdI (fieldL l 1) = m ∧ rdI (fieldL l 2) = dd ∧ 0 ≤ rdI (fieldL l 3) ∧ 0 ≤ rdI (fieldL l 4) ∧ 0 ≤ rdI (fieldL l 5) ∧
      cand k m (rdI (fieldL l 2)) (rdI (fieldL l 3)) (rdI (fieldL l 4)) (rdI (fieldL l 5)) = t := by
  obtain ⟨k, m, dd, a, e⟩ := textOf_is ht
  obtain ⟨b1, b2, b3⟩ := date_bounds a
  rw [h] at e
  have f0 : fieldL l 0 = [50, 48] ++ two k := by rw [e]; rfl
  have f1 : fieldL l 1 = two m := by rw [e]; rfl
  have f2 : fieldL l 2 = two dd := by rw [e]; rfl
  have f3 : fieldL l 3 = two (t % 86400 / 3600) := by rw [e]; rfl
  have f4 : fieldL l 4 = two (t % 3600 / 60) := by rw [e]; rfl
  have f5 : fieldL l 5 = two (t % 60) := by rw [e]; rfl
  have g2 := rdI_two b3
  have g3 := rdI_two (show t % 86400 / 3600 < 100 by omega)
  have g4 := rdI_two (show t % 3600 / 60 < 100 by omega)
  have g5 := rdI_two (show t % 60 < 100 by omega)
  refine ⟨k, m, dd, a, by rw [f0]; exact rdI_year b1, by rw [f1]; exact rdI_two b2, by rw [f2]; exact g2, by rw [f3, g3]; omega, by rw [f4, g4]; omega, by rw [f5, g5]; omega, ?_⟩
  rw [f2, f3, f4, f5, g2, g3, g4, g5]
  unfold cand
  have := a.eq
  omega

open Classical in
/-- The time of which the text is made, and true; 0 and false of none. -/
noncomputable def timeOf (l : List UInt8) : Int × Bool := if h : ∃ t : Nat, t ≤ 3155759999 ∧ textOf t = l then ((h.choose : Nat), true) else (0, false)

theorem textOf_inj {t t' : Nat} (h : t ≤ 3155759999) (h' : t' ≤ 3155759999) (e : textOf t = textOf t') : t = t' := by
  have a := textOf_is h
  have b := textOf_is h'
  rw [e] at a
  exact isText_inj a b

theorem timeOf_yes {l : List UInt8} {t : Nat} (ht : t ≤ 3155759999) (h : textOf t = l) : timeOf l = ((t : Int), true) := by
  have hx : ∃ t : Nat, t ≤ 3155759999 ∧ textOf t = l := ⟨t, ht, h⟩
  unfold timeOf
  rw [dif_pos hx]
  have := textOf_inj hx.choose_spec.1 ht (hx.choose_spec.2.trans h.symm)
  rw [this]

theorem timeOf_no {l : List UInt8} (h : ∀ t : Nat, t ≤ 3155759999 → textOf t ≠ l) : timeOf l = (0, false) := by
  unfold timeOf
  rw [dif_neg]
  rintro ⟨t, ht, e⟩
  exact h t ht e

theorem timeOf_len {l : List UInt8} (h : l.length ≠ 20) : timeOf l = (0, false) :=
  timeOf_no fun t ht e => h (by rw [← e]; exact isText_length (textOf_is ht))

/-- A field that is wrong. -/
theorem timeOf_bad {l : List UInt8} (h : ¬ ((∃ k m : Nat, k < 100 ∧ 1 ≤ m ∧ m ≤ 12 ∧ rdI (fieldL l 0) = 2000 + k ∧ rdI (fieldL l 1) = m ∧ 1 ≤ rdI (fieldL l 2) ∧ rdI (fieldL l 2) ≤ dm (lp k) m) ∧ 0 ≤ rdI (fieldL l 3) ∧ 0 ≤ rdI (fieldL l 4) ∧ 0 ≤ rdI (fieldL l 5))) : timeOf l = (0, false) :=
  timeOf_no fun t ht e => by
    obtain ⟨k, m, dd, a, h0, h1, h2, h3, h4, h5, _⟩ := text_fields ht e
    exact h ⟨⟨k, m, a.k1, a.m0, a.m1, h0, h1, by have := a.d0; omega, by have := a.d1; omega⟩, h3, h4, h5⟩

/-- The candidate decides. -/
theorem timeOf_cand {l : List UInt8} {k m : Nat} {n2 n3 n4 n5 : Int} (hk : k < 100) (h0 : rdI (fieldL l 0) = 2000 + k) (h1 : rdI (fieldL l 1) = m) (e2 : rdI (fieldL l 2) = n2) (e3 : rdI (fieldL l 3) = n3) (e4 : rdI (fieldL l 4) = n4) (e5 : rdI (fieldL l 5) = n5) (hl : l.length = 20) :
    timeOf l = if textOf (cand k m n2 n3 n4 n5) = l then (cand k m n2 n3 n4 n5, true) else (0, false) := by
  subst e2 e3 e4 e5
  by_cases hc : textOf (cand k m (rdI (fieldL l 2)) (rdI (fieldL l 3)) (rdI (fieldL l 4)) (rdI (fieldL l 5))) = l
  · rw [if_pos hc]
    generalize cand k m (rdI (fieldL l 2)) (rdI (fieldL l 3)) (rdI (fieldL l 4)) (rdI (fieldL l 5)) = c at *
    by_cases hr : 0 ≤ c ∧ c ≤ 3155759999
    · obtain ⟨n, rfl⟩ : ∃ n : Nat, c = n := ⟨c.toNat, by omega⟩
      exact timeOf_yes (by omega) hc
    · rw [textOf_out hr] at hc
      rw [← hc] at hl
      simp at hl
  · rw [if_neg hc]
    refine timeOf_no fun t ht e => hc ?_
    obtain ⟨k', m', dd, a, g0, g1, g2, g3, g4, g5, gc⟩ := text_fields ht e
    have : k' = k := by omega
    subst this
    have : m' = m := by omega
    subst this
    rw [gc]
    exact e

end Go.Proofs.YtknpgdglabibiaaGreatDoor

namespace Go.Proofs.YtknpgdglabibiaaGreatDoor
open Go.RowKit
set_option linter.unusedVariables false
set_option linter.unusedSimpArgs false

theorem t_cDigit (c : UInt8) (w : World) :
    Calls Tryz.prog 127 #[.int .u8 c.toNat] w fun e w' => e = .returned (.bool (isDig c)) ∧ w' = w := by
  by_cases h1 : 48 ≤ c.toNat
  · by_cases h2 : c.toNat ≤ 57
    · have e : isDig c = true := by unfold isDig; simp [h1, h2]
      rw [e]
      generalize c.toNat = n at *
      go_enter Tryz.func127, Tryz.ntmps127
      go_wp2
      go_ret
      exact ⟨by first | rfl | (congr 2; simp; omega), rfl⟩
    · have e : isDig c = false := by unfold isDig; simp [h2]
      rw [e]
      generalize c.toNat = n at *
      go_enter Tryz.func127, Tryz.ntmps127
      go_wp2
      go_ret
      exact ⟨by first | rfl | (congr 2; simp; omega), rfl⟩
  · have e : isDig c = false := by unfold isDig; simp [h1]
    rw [e]
    generalize c.toNat = n at *
    go_enter Tryz.func127, Tryz.ntmps127
    go_wp2
    go_ret
    exact ⟨by first | rfl | (congr 2; simp; omega), rfl⟩

theorem getL (b : ByteArray) (i : Nat) (h : i < b.size) : b.data.toList[i]? = some b[i] := by
  have h' : i < b.data.size := h
  rw [Array.getElem?_toList, Array.getElem?_eq_getElem h']
  rfl

theorem t_take_snoc (b : ByteArray) (o j : Nat) (h : o + j < b.size) : (b.data.toList.drop o).take (j + 1) = (b.data.toList.drop o).take j ++ [b[o + j]] := by
  rw [List.take_add_one, List.getElem?_drop, getL b (o + j) h]
  rfl

theorem all_snoc (l : List UInt8) (c : UInt8) : (l ++ [c]).all isDig = (l.all isDig && isDig c) := by simp

theorem all_false {l : List UInt8} {o j : Nat} {c : UInt8} {q : List UInt8} (h : (l.drop o).take (j + 1) = q ++ [c]) (hc : isDig c = false) (wd : Nat) (hj : j < wd) : ((l.drop o).take wd).all isDig = false := by
  have e : ((l.drop o).take (j + 1)).all isDig = false := by rw [h, all_snoc, hc]; simp
  rw [List.all_eq_false] at e ⊢
  obtain ⟨x, hx, hf⟩ := e
  refine ⟨x, ?_, hf⟩
  have : (l.drop o).take (j + 1) = ((l.drop o).take wd).take (j + 1) := by rw [List.take_take, Nat.min_eq_left (by omega)]
  rw [this] at hx
  exact List.mem_of_mem_take hx

theorem t_sz (b : ByteArray) : b.size = b.data.toList.length := by rw [Array.length_toList]; rfl

theorem val_bound {n : Nat} {l : List UInt8} (h : l.all isDig = true) (hl : l.length ≤ n) (hn : n ≤ 15) : valD l < 1000000000000000 := by
  have h1 := valD_lt l h
  have h2 : 10 ^ l.length ≤ 10 ^ 15 := Nat.pow_le_pow_right (by decide) (by omega)
  have h3 : (10 : Nat) ^ 15 = 1000000000000000 := by decide
  omega

theorem sub48 (c : UInt8) (h : isDig c = true) : IntKind.u8.wrap ((c.toNat : Int) - 48) = ((c.toNat - 48 : Nat) : Int) := by
  have := c.toNat_lt
  unfold isDig at h
  simp at h
  rw [IntWalk.u8_in _ (by omega)]
  omega

set_option maxHeartbeats 2000000 in
theorem cDigitsI (b : ByteArray) (w : World) (hb : b.size ≤ 15) :
    Calls Tryz.prog 156 #[.string b] w fun e w' => e = .returned (.tuple #[.int .i64 (if b.data.toList.all isDig = true then (valD b.data.toList : Int) else 0), .bool (b.data.toList.all isDig)]) ∧ w' = w := by
  obtain ⟨R, hR⟩ : ∃ R : Int, (if b.data.toList.all isDig = true then (valD b.data.toList : Int) else 0) = R := ⟨_, rfl⟩
  obtain ⟨B, hB⟩ : ∃ B : Bool, b.data.toList.all isDig = B := ⟨_, rfl⟩
  have HR : Hid ((if b.data.toList.all isDig = true then (valD b.data.toList : Int) else 0) = R) := hR
  have HB : Hid (b.data.toList.all isDig = B) := hB
  rw [hR, hB]
  clear hR hB
  go_enter Tryz.func156, Tryz.ntmps156
  go_wp2
  go_loop [4, 8] (fun n i => ∃ j v : Nat, i = .int .i64 (j : Int) ∧ j ≤ b.size ∧ n = .int .i64 (v : Int) ∧ v = valD ((b.data.toList.drop 0).take j) ∧ ((b.data.toList.drop 0).take j).all isDig = true) (fun _ i => b.size - (intOf i).toNat)
  case atStart => exact ⟨0, 0, rfl, Nat.zero_le _, rfl, rfl, rfl⟩
  case round =>
    obtain ⟨j, v, rfl, hj, rfl, hv, hall⟩ := hrel
    have hvb : v < 1000000000000000 := by rw [hv]; exact val_bound (n := b.size) hall (by simp; omega) hb
    have HV : Hid (v = valD ((b.data.toList.drop 0).take j)) := hv
    have HA : Hid (((b.data.toList.drop 0).take j).all isDig = true) := hall
    clear hv hall
    by_cases hlt : j < b.size
    · have hts := t_take_snoc b 0 j (by omega)
      simp only [Nat.zero_add] at hts
      have HT : Hid ((b.data.toList.drop 0).take (j + 1) = (b.data.toList.drop 0).take j ++ [b[j]]) := hts
      have C := fun w => t_cDigit b[j] w
      clear hts
      by_cases hd : isDig b[j] = true
      · have hs := sub48 b[j] hd
        have HD : Hid (isDig b[j] = true) := hd
        rw [hd] at C
        obtain ⟨x, hx⟩ : ∃ x : Nat, b[j].toNat - 48 = x := ⟨_, rfl⟩
        have hx9 : x ≤ 255 := by have := b[j].toNat_lt; omega
        have HX : Hid (b[j].toNat - 48 = x) := hx
        rw [hx] at hs
        clear hx hd
        go_wp2_with fail
        refine (C _).mono ?_
        rintro e w' ⟨rfl, rfl⟩
        go_wp2_with fail
        go_round
        case rel =>
          refine ⟨j + 1, 10 * v + x, by go_num, by omega, by go_num, ?_, ?_⟩
          · rw [HT.out, valD_snoc, ← HV.out, HX.out]
          · rw [HT.out, all_snoc, HA.out, HD.out]; rfl
        case measure => simp [intOf]; omega
      · replace hd : isDig b[j] = false := by simpa using hd
        have hf := all_false HT.out hd b.size hlt
        have e : b.data.toList.drop 0 = b.data.toList := rfl
        rw [e, List.take_of_length_le (by rw [← t_sz]; exact Nat.le_refl _)] at hf
        have h1 := HB.out
        have h2 := HR.out
        rw [hf] at h1 h2
        rw [if_neg (by simp)] at h2
        subst h1 h2
        rw [hd] at C
        clear hd hf HB HR HT HA HV e
        go_wp2_with fail
        refine (C _).mono ?_
        rintro e w' ⟨rfl, rfl⟩
        go_wp2_with fail
        go_ret2
        exact ⟨rfl, rfl⟩
    · have hje : j = b.size := by omega
      have e : (b.data.toList.drop 0).take j = b.data.toList := by rw [hje]; exact List.take_of_length_le (by rw [t_sz]; simp)
      have h1 := HB.out
      have h2 := HR.out
      have h3 := HA.out
      have h4 := HV.out
      rw [e] at h3 h4
      rw [h3] at h1 h2
      rw [if_pos rfl, ← h4] at h2
      subst h1 h2
      clear HB HR HA HV e h3 h4 hje
      go_wp2_with fail
      go_ret2
      exact ⟨rfl, rfl⟩

end Go.Proofs.YtknpgdglabibiaaGreatDoor
