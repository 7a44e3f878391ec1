/-  -/
import Derived.Test.YtlpbbkaelbafdaaGreatDoorM15
import Derived.Test.YtlpbbkaelbafdaaGreatDoorM13
import Derived.Laws.Strings3
set_option linter.unusedVariables false
set_option linter.unusedSimpArgs false
namespace Go.Proofs.YtlpbbkaelbafdaaGreatDoor

def isDig (c : UInt8) : Bool := decide (48 <= c.toNat) && decide (c.toNat <= 57)

def valD (l : List UInt8) : Nat := l.foldl (fun n c => 10 * n + (c.toNat - 48)) 0

def rdI (l : List UInt8) : Int := if l.all isDig = true then (valD l : Int) else -1

theorem valD_snoc (l : List UInt8) (c : UInt8) : valD (l ++ [c]) = 10 * valD l + (c.toNat - 48) := by
 unfold valD
 rw [List.foldl_append]
 rfl

theorem fold_lt : ∀ (l : List UInt8) (n : Nat), l.all isDig = true -> l.foldl (fun n c => 10 * n + (c.toNat - 48)) n < (n + 1) * 10 ^ l.length
 | [], n, _ => by simp
 | c :: l, n, h => by
  simp only [List.all_cons, Bool.and_eq_true] at h
  have hc : c.toNat - 48 <= 9 := by
   have := h.1
   unfold isDig at this
   simp at this
   omega
  have ih := fold_lt l (10 * n + (c.toNat - 48)) h.2
  rw [List.foldl_cons, List.length_cons, Nat.pow_succ]
  have : (10 * n + (c.toNat - 48) + 1) * 10 ^ l.length <= (10 * n + 10) * 10 ^ l.length := Nat.mul_le_mul_right _ (by omega)
  have e : (n + 1) * (10 ^ l.length * 10) = (10 * n + 10) * 10 ^ l.length := by
   rw [Nat.mul_comm (10 ^ l.length) 10, <- Nat.mul_assoc]
   congr 1
   omega
  omega

theorem valD_lt (l : List UInt8) (h : l.all isDig = true) : valD l < 10 ^ l.length := by
 have := fold_lt l 0 h
 unfold valD
 simpa using this

theorem rdI_bounds (l : List UInt8) : -1 <= rdI l /\ rdI l < 10 ^ l.length := by
 unfold rdI
 split
 ·rename_i h
  have := valD_lt l h
  refine ⟨by omega, ?_⟩
  exact_mod_cast this
 ·have : (0 : Int) < 10 ^ l.length := Int.pow_pos (by decide)
  omega

theorem dig_dgt {n : Nat} (h : n < 10) : isDig (dgt n) = true := by
 unfold isDig
 rw [dgt_toNat n h]
 simp
 omega

theorem rdI_two {n : Nat} (h : n < 100) : rdI (two n) = n := by
 have h1 : n / 10 < 10 := by omega
 have h2 : n % 10 < 10 := by omega
 unfold rdI
 rw [if_pos (by simp only [two, List.all_cons, List.all_nil, dig_dgt h1, dig_dgt h2]; rfl)]
 simp only [valD, two, List.foldl_cons, List.foldl_nil, dgt_toNat _ h1, dgt_toNat _ h2]
 omega

theorem rdI_year {k : Nat} (h : k < 100) : rdI ([50, 48] ++ two k) = 2000 + k := by
 have h1 : k / 10 < 10 := by omega
 have h2 : k % 10 < 10 := by omega
 have a : isDig 50 = true := by decide
 have b : isDig 48 = true := by decide
 unfold rdI
 rw [if_pos (by simp only [two, List.cons_append, List.nil_append, List.all_cons, List.all_nil, dig_dgt h1, dig_dgt h2, a, b]; rfl)]
 simp only [valD, two, List.cons_append, List.nil_append, List.foldl_cons, List.foldl_nil, dgt_toNat _ h1, dgt_toNat _ h2]
 have c : (50 : UInt8).toNat = 50 := rfl
 have d : (48 : UInt8).toNat = 48 := rfl
 rw [c, d]
 omega

def off (q : Nat) : Nat := if q = 0 then 0 else 3 * q + 2
def wid (q : Nat) : Nat := if q = 0 then 4 else 2
def fieldL (l : List UInt8) (q : Nat) : List UInt8 := (l.drop (off q)).take (wid q)

def cand (k m : Nat) (n2 n3 n4 n5 : Int) : Int := ((yb k + mb (lp k) m : Nat) + n2 - 1) * 86400 + n3 * 3600 + n4 * 60 + n5

theorem text_fields {t : Nat} {l : List UInt8} (ht : t <= 3155759999) (h : textOf t = l) :
  ∃ k m dd : Nat, IsDate (t / 86400) k m dd /\ rdI (fieldL l 0) = 2000 + k /\ rdI (fieldL l 1) = m /\ rdI (fieldL l 2) = dd /\ 0 <= rdI (fieldL l 3) /\ 0 <= rdI (fieldL l 4) /\ 0 <= rdI (fieldL l 5) /\
   cand k m (rdI (fieldL l 2)) (rdI (fieldL l 3)) (rdI (fieldL l 4)) (rdI (fieldL l 5)) = t := by
 obtain ⟨k, m, dd, a, e⟩ := textOf_is ht
 obtain ⟨b1, b2, b3⟩ := date_bounds a
 rw [h] at e
 have f0 : fieldL l 0 = [50, 48] ++ two k := by rw [e]; rfl
 have f1 : fieldL l 1 = two m := by rw [e]; rfl
 have f2 : fieldL l 2 = two dd := by rw [e]; rfl
 have f3 : fieldL l 3 = two (t % 86400 / 3600) := by rw [e]; rfl
 have f4 : fieldL l 4 = two (t % 3600 / 60) := by rw [e]; rfl
 have f5 : fieldL l 5 = two (t % 60) := by rw [e]; rfl
 have g2 := rdI_two b3
 have g3 := rdI_two (show t % 86400 / 3600 < 100 by omega)
 have g4 := rdI_two (show t % 3600 / 60 < 100 by omega)
 have g5 := rdI_two (show t % 60 < 100 by omega)
 refine ⟨k, m, dd, a, by rw [f0]; exact rdI_year b1, by rw [f1]; exact rdI_two b2, by rw [f2]; exact g2, by rw [f3, g3]; omega, by rw [f4, g4]; omega, by rw [f5, g5]; omega, ?_⟩
 rw [f2, f3, f4, f5, g2, g3, g4, g5]
 unfold cand
 have := a.eq
 omega

open Classical in
noncomputable def timeOf (l : List UInt8) : Int × Bool := if h : ∃ t : Nat, t <= 3155759999 /\ textOf t = l then ((h.choose : Nat), true) else (0, false)

theorem textOf_inj {t t' : Nat} (h : t <= 3155759999) (h' : t' <= 3155759999) (e : textOf t = textOf t') : t = t' := by
 have a := textOf_is h
 have b := textOf_is h'
 rw [e] at a
 exact isText_inj a b

theorem timeOf_yes {l : List UInt8} {t : Nat} (ht : t <= 3155759999) (h : textOf t = l) : timeOf l = ((t : Int), true) := by
 have hx : ∃ t : Nat, t <= 3155759999 /\ textOf t = l := ⟨t, ht, h⟩
 unfold timeOf
 rw [dif_pos hx]
 have := textOf_inj hx.choose_spec.1 ht (hx.choose_spec.2.trans h.symm)
 rw [this]

theorem timeOf_no {l : List UInt8} (h : ∀ t : Nat, t <= 3155759999 -> textOf t ≠ l) : timeOf l = (0, false) := by
 unfold timeOf
 rw [dif_neg]
 rintro ⟨t, ht, e⟩
 exact h t ht e

theorem timeOf_len {l : List UInt8} (h : l.length ≠ 20) : timeOf l = (0, false) :=
 timeOf_no fun t ht e => h (by rw [<- e]; exact isText_length (textOf_is ht))

theorem timeOf_bad {l : List UInt8} (h : ¬ ((∃ k m : Nat, k < 100 /\ 1 <= m /\ m <= 12 /\ rdI (fieldL l 0) = 2000 + k /\ rdI (fieldL l 1) = m /\ 1 <= rdI (fieldL l 2) /\ rdI (fieldL l 2) <= dm (lp k) m) /\ 0 <= rdI (fieldL l 3) /\ 0 <= rdI (fieldL l 4) /\ 0 <= rdI (fieldL l 5))) : timeOf l = (0, false) :=
 timeOf_no fun t ht e => by
  obtain ⟨k, m, dd, a, h0, h1, h2, h3, h4, h5, _⟩ := text_fields ht e
  exact h ⟨⟨k, m, a.k1, a.m0, a.m1, h0, h1, by have := a.d0; omega, by have := a.d1; omega⟩, h3, h4, h5⟩

theorem timeOf_cand {l : List UInt8} {k m : Nat} {n2 n3 n4 n5 : Int} (hk : k < 100) (h0 : rdI (fieldL l 0) = 2000 + k) (h1 : rdI (fieldL l 1) = m) (e2 : rdI (fieldL l 2) = n2) (e3 : rdI (fieldL l 3) = n3) (e4 : rdI (fieldL l 4) = n4) (e5 : rdI (fieldL l 5) = n5) (hl : l.length = 20) :
  timeOf l = if textOf (cand k m n2 n3 n4 n5) = l then (cand k m n2 n3 n4 n5, true) else (0, false) := by
 subst e2 e3 e4 e5
 by_cases hc : textOf (cand k m (rdI (fieldL l 2)) (rdI (fieldL l 3)) (rdI (fieldL l 4)) (rdI (fieldL l 5))) = l
 ·rw [if_pos hc]
  generalize cand k m (rdI (fieldL l 2)) (rdI (fieldL l 3)) (rdI (fieldL l 4)) (rdI (fieldL l 5)) = c at *
  by_cases hr : 0 <= c /\ c <= 3155759999
  ·obtain ⟨n, rfl⟩ : ∃ n : Nat, c = n := ⟨c.toNat, by omega⟩
   exact timeOf_yes (by omega) hc
  ·rw [textOf_out hr] at hc
   rw [<- hc] at hl
   simp at hl
 ·rw [if_neg hc]
  refine timeOf_no fun t ht e => hc ?_
  obtain ⟨k', m', dd, a, g0, g1, g2, g3, g4, g5, gc⟩ := text_fields ht e
  have : k' = k := by omega
  subst this
  have : m' = m := by omega
  subst this
  rw [gc]
  exact e

end Go.Proofs.YtlpbbkaelbafdaaGreatDoor

namespace Go.Proofs.YtlpbbkaelbafdaaGreatDoor
open Go.RowKit

theorem t_cDigit (c : UInt8) (w : World) :
  Calls Tryz.prog 136 #[.int .u8 c.toNat] w fun e w' => e = .returned (.bool (isDig c)) /\ w' = w := by
 by_cases h1 : 48 <= c.toNat
 ·by_cases h2 : c.toNat <= 57
  ·have e : isDig c = true := by unfold isDig; simp [h1, h2]
   rw [e]
   generalize c.toNat = n at *
   go_enter Tryz.func136, Tryz.ntmps136
   go_wp2
   go_ret
   exact ⟨by first | rfl | (congr 2; simp; omega), rfl⟩
  ·have e : isDig c = false := by unfold isDig; simp [h2]
   rw [e]
   generalize c.toNat = n at *
   go_enter Tryz.func136, Tryz.ntmps136
   go_wp2
   go_ret
   exact ⟨by first | rfl | (congr 2; simp; omega), rfl⟩
 ·have e : isDig c = false := by unfold isDig; simp [h1]
  rw [e]
  generalize c.toNat = n at *
  go_enter Tryz.func136, Tryz.ntmps136
  go_wp2
  go_ret
  exact ⟨by first | rfl | (congr 2; simp; omega), rfl⟩

theorem getL (b : ByteArray) (i : Nat) (h : i < b.size) : b.data.toList[i]? = some b[i] := by
 have h' : i < b.data.size := h
 rw [Array.getElem?_toList, Array.getElem?_eq_getElem h']
 rfl

theorem t_take_snoc (b : ByteArray) (o j : Nat) (h : o + j < b.size) : (b.data.toList.drop o).take (j + 1) = (b.data.toList.drop o).take j ++ [b[o + j]] := by
 rw [List.take_add_one, List.getElem?_drop, getL b (o + j) h]
 rfl

theorem all_snoc (l : List UInt8) (c : UInt8) : (l ++ [c]).all isDig = (l.all isDig && isDig c) := by simp

theorem all_false {l : List UInt8} {o j : Nat} {c : UInt8} {q : List UInt8} (h : (l.drop o).take (j + 1) = q ++ [c]) (hc : isDig c = false) (wd : Nat) (hj : j < wd) : ((l.drop o).take wd).all isDig = false := by
 have e : ((l.drop o).take (j + 1)).all isDig = false := by rw [h, all_snoc, hc]; simp
 rw [List.all_eq_false] at e ⊢
 obtain ⟨x, hx, hf⟩ := e
 refine ⟨x, ?_, hf⟩
 have : (l.drop o).take (j + 1) = ((l.drop o).take wd).take (j + 1) := by rw [List.take_take, Nat.min_eq_left (by omega)]
 rw [this] at hx
 exact List.mem_of_mem_take hx

theorem t_sz (b : ByteArray) : b.size = b.data.toList.length := by rw [Array.length_toList]; rfl

theorem val_bound {n : Nat} {l : List UInt8} (h : l.all isDig = true) (hl : l.length <= n) (hn : n <= 15) : valD l < 1000000000000000 := by
 have h1 := valD_lt l h
 have h2 : 10 ^ l.length <= 10 ^ 15 := Nat.pow_le_pow_right (by decide) (by omega)
 have h3 : (10 : Nat) ^ 15 = 1000000000000000 := by decide
 omega

theorem sub48 (c : UInt8) (h : isDig c = true) : IntKind.u8.wrap ((c.toNat : Int) - 48) = ((c.toNat - 48 : Nat) : Int) := by
 have := c.toNat_lt
 unfold isDig at h
 simp at h
 rw [IntWalk.u8_in _ (by omega)]
 omega

set_option maxHeartbeats 2000000 in
theorem cDigitsI (b : ByteArray) (w : World) (hb : b.size <= 15) :
  Calls Tryz.prog 177 #[.string b] w fun e w' => e = .returned (.tuple #[.int .i64 (if b.data.toList.all isDig = true then (valD b.data.toList : Int) else 0), .bool (b.data.toList.all isDig)]) /\ w' = w := by
 obtain ⟨R, hR⟩ : ∃ R : Int, (if b.data.toList.all isDig = true then (valD b.data.toList : Int) else 0) = R := ⟨_, rfl⟩
 obtain ⟨B, hB⟩ : ∃ B : Bool, b.data.toList.all isDig = B := ⟨_, rfl⟩
 have HR : Hid ((if b.data.toList.all isDig = true then (valD b.data.toList : Int) else 0) = R) := hR
 have HB : Hid (b.data.toList.all isDig = B) := hB
 rw [hR, hB]
 clear hR hB
 go_enter Tryz.func177, Tryz.ntmps177
 go_wp2
 go_loop [4, 8] (fun n i => ∃ j v : Nat, i = .int .i64 (j : Int) /\ j <= b.size /\ n = .int .i64 (v : Int) /\ v = valD ((b.data.toList.drop 0).take j) /\ ((b.data.toList.drop 0).take j).all isDig = true) (fun _ i => b.size - (intOf i).toNat)
 case atStart => exact ⟨0, 0, rfl, Nat.zero_le _, rfl, rfl, rfl⟩
 case round =>
  obtain ⟨j, v, rfl, hj, rfl, hv, hall⟩ := hrel
  have hvb : v < 1000000000000000 := by rw [hv]; exact val_bound (n := b.size) hall (by simp; omega) hb
  have HV : Hid (v = valD ((b.data.toList.drop 0).take j)) := hv
  have HA : Hid (((b.data.toList.drop 0).take j).all isDig = true) := hall
  clear hv hall
  by_cases hlt : j < b.size
  ·have hts := t_take_snoc b 0 j (by omega)
   simp only [Nat.zero_add] at hts
   have HT : Hid ((b.data.toList.drop 0).take (j + 1) = (b.data.toList.drop 0).take j ++ [b[j]]) := hts
   have C := fun w => t_cDigit b[j] w
   clear hts
   by_cases hd : isDig b[j] = true
   ·have hs := sub48 b[j] hd
    have HD : Hid (isDig b[j] = true) := hd
    rw [hd] at C
    obtain ⟨x, hx⟩ : ∃ x : Nat, b[j].toNat - 48 = x := ⟨_, rfl⟩
    have hx9 : x <= 255 := by have := b[j].toNat_lt; omega
    have HX : Hid (b[j].toNat - 48 = x) := hx
    rw [hx] at hs
    clear hx hd
    go_wp2_with fail
    refine (C _).mono ?_
    rintro e w' ⟨rfl, rfl⟩
    go_wp2_with fail
    go_round
    case rel =>
     refine ⟨j + 1, 10 * v + x, by go_num, by omega, by go_num, ?_, ?_⟩
     ·rw [HT.out, valD_snoc, <- HV.out, HX.out]
     ·rw [HT.out, all_snoc, HA.out, HD.out]; rfl
    case measure => simp [intOf]; omega
   ·replace hd : isDig b[j] = false := by simpa using hd
    have hf := all_false HT.out hd b.size hlt
    have e : b.data.toList.drop 0 = b.data.toList := rfl
    rw [e, List.take_of_length_le (by rw [<- t_sz]; exact Nat.le_refl _)] at hf
    have h1 := HB.out
    have h2 := HR.out
    rw [hf] at h1 h2
    rw [if_neg (by simp)] at h2
    subst h1 h2
    rw [hd] at C
    clear hd hf HB HR HT HA HV e
    go_wp2_with fail
    refine (C _).mono ?_
    rintro e w' ⟨rfl, rfl⟩
    go_wp2_with fail
    go_ret2
    exact ⟨rfl, rfl⟩
  ·have hje : j = b.size := by omega
   have e : (b.data.toList.drop 0).take j = b.data.toList := by rw [hje]; exact List.take_of_length_le (by rw [t_sz]; simp)
   have h1 := HB.out
   have h2 := HR.out
   have h3 := HA.out
   have h4 := HV.out
   rw [e] at h3 h4
   rw [h3] at h1 h2
   rw [if_pos rfl, <- h4] at h2
   subst h1 h2
   clear HB HR HA HV e h3 h4 hje
   go_wp2_with fail
   go_ret2
   exact ⟨rfl, rfl⟩

end Go.Proofs.YtlpbbkaelbafdaaGreatDoor

namespace Go.Proofs.YtlpbbkaelbafdaaGreatDoor
open Go.RowKit

set_option maxHeartbeats 2000000 in
theorem cDigitsS (b : ByteArray) (o wd : Nat) (w : World) (hw : wd <= 15) (hb : o + wd <= b.size) (hs : b.size <= 1048576) :
  Calls Tryz.prog 135 #[.string b, .int .i64 o, .int .i64 wd] w fun e w' => e = .returned (.int .i64 (rdI ((b.data.toList.drop o).take wd))) /\ w' = w := by
 obtain ⟨R, hR⟩ : ∃ R : Int, rdI ((b.data.toList.drop o).take wd) = R := ⟨_, rfl⟩
 have HR : Hid (rdI ((b.data.toList.drop o).take wd) = R) := hR
 rw [hR]
 clear hR
 go_enter Tryz.func135, Tryz.ntmps135
 go_wp2
 go_loop [7, 8] (fun n i => ∃ j v : Nat, i = .int .i64 ((o + j : Nat) : Int) /\ j <= wd /\ n = .int .i64 (v : Int) /\ v = valD ((b.data.toList.drop o).take j) /\ ((b.data.toList.drop o).take j).all isDig = true) (fun _ i => o + wd - (intOf i).toNat)
 case atStart => exact ⟨0, 0, rfl, Nat.zero_le _, rfl, rfl, rfl⟩
 case round =>
  obtain ⟨j, v, rfl, hj, rfl, hv, hall⟩ := hrel
  have hvb : v < 1000000000000000 := by rw [hv]; exact val_bound (n := wd) hall (by simp; omega) hw
  have HV : Hid (v = valD ((b.data.toList.drop o).take j)) := hv
  have HA : Hid (((b.data.toList.drop o).take j).all isDig = true) := hall
  clear hv hall
  obtain ⟨p, hp⟩ : ∃ p : Nat, o + j = p := ⟨_, rfl⟩
  have HP : Hid (o + j = p) := hp
  by_cases hlt : j < wd
  ·have hpb : p < b.size := by omega
   have hpw : p < o + wd := by omega
   have hts := t_take_snoc b o j (by omega)
   simp only [hp] at hts
   have HT : Hid ((b.data.toList.drop o).take (j + 1) = (b.data.toList.drop o).take j ++ [b[p]]) := hts
   rw [hp]
   clear hts hp
   have hwr : IntKind.i64.wrap ((o : Int) + (wd : Int)) = (o : Int) + (wd : Int) := IntWalk.i64_in _ (by omega)
   have hpi : (p : Int) < (o : Int) + (wd : Int) := by omega
   by_cases hd : isDig b[p] = true
   ·have hs48 := sub48 b[p] hd
    have HD : Hid (isDig b[p] = true) := hd
    have q1 : 48 <= b[p].toNat := by unfold isDig at hd; simp at hd; omega
    have q2 : b[p].toNat <= 57 := by unfold isDig at hd; simp at hd; omega
    have d1 : decide ((b[p].toNat : Int) < 48) = false := by simp; omega
    have d2 : decide ((57 : Int) < (b[p].toNat : Int)) = false := by simp; omega
    obtain ⟨x, hx⟩ : ∃ x : Nat, b[p].toNat - 48 = x := ⟨_, rfl⟩
    have hx9 : x <= 255 := by omega
    have HX : Hid (b[p].toNat - 48 = x) := hx
    rw [hx] at hs48
    clear hx hd
    go_wp2_with fail
    go_round
    case rel =>
     have h1 := HP.out
     refine ⟨j + 1, 10 * v + x, by go_num, by omega, by go_num, ?_, ?_⟩
     ·rw [HT.out, valD_snoc, <- HV.out, HX.out]
     ·rw [HT.out, all_snoc, HA.out, HD.out]; rfl
    case measure => simp [intOf]; omega
   ·replace hd : isDig b[p] = false := by simpa using hd
    have hf := all_false HT.out hd wd hlt
    have h2 := HR.out
    unfold rdI at h2
    rw [if_neg (by rw [hf]; simp)] at h2
    subst h2
    have hq : b[p].toNat < 48 \/ (48 <= b[p].toNat /\ 57 < b[p].toNat) := by
     unfold isDig at hd
     simp at hd
     omega
    clear hd hf HR HT HA HV
    rcases hq with hq | ⟨hq, hq2⟩
    ·have d1 : decide ((b[p].toNat : Int) < 48) = true := by simp; omega
     go_wp2_with fail
     go_ret
     exact ⟨rfl, rfl⟩
    ·have d1 : decide ((b[p].toNat : Int) < 48) = false := by simp; omega
     have d2 : decide ((57 : Int) < (b[p].toNat : Int)) = true := by simp; omega
     go_wp2_with fail
     go_ret
     exact ⟨rfl, rfl⟩
  ·have hje : j = wd := by omega
   have hpw : ¬ p < o + wd := by omega
   rw [hp]
   clear hp
   have hwr : IntKind.i64.wrap ((o : Int) + (wd : Int)) = (o : Int) + (wd : Int) := IntWalk.i64_in _ (by omega)
   have hpi : ¬ (p : Int) < (o : Int) + (wd : Int) := by omega
   have h2 := HR.out
   unfold rdI at h2
   rw [<- hje, if_pos HA.out, <- HV.out] at h2
   subst h2
   clear HR HA HV hje
   go_wp2_with fail
   go_ret
   exact ⟨rfl, rfl⟩

set_option maxHeartbeats 4000000 in
theorem cAhead (k m : Nat) (w : World) (hk : k < 100) (hm1 : 1 <= m) (hm2 : m <= 12) (hM : Mon w) :
  Calls Tryz.prog 168 #[.int .i64 (2000 + k : Nat), .int .i64 m] w fun e w' => e = .returned (.int .i64 (yb k + mb (lp k) m : Nat)) /\ Below w.heap.size w w' := by
 have HM : Hid (Mon w) := hM
 clear hM
 obtain ⟨Y, hY⟩ : ∃ Y : Int, ((2000 + k : Nat) : Int) = Y := ⟨_, rfl⟩
 have HY : Hid (((2000 + k : Nat) : Int) = Y) := hY
 rw [hY]
 clear hY
 go_enter Tryz.func168, Tryz.ntmps168
 go_wp2
 go_loopw [5, 6] (fun ds y wr => ∃ j v : Nat, j <= k /\ ds = .int .i64 (v : Int) /\ v = yb j /\ y = .int .i64 ((2000 + j : Nat) : Int) /\ Below w.heap.size w wr) (fun _ y _ => 2000 + k - (intOf y).toNat)
 case atStart => exact ⟨0, 0, Nat.zero_le _, rfl, rfl, rfl, Below.refl _ _⟩
 case round =>
  obtain ⟨j, v, hj, rfl, hv, rfl, hB⟩ := hrel
  have hvb : v <= 36525 := by rw [hv]; unfold yb; omega
  have HV : Hid (v = yb j) := hv
  have HB : Hid (Below w.heap.size w wr) := hB
  have hMr : Mon wr := HM.out.below hB
  have A1 := cMonthsOf j wr (by omega) hMr
  have A2 := fun wx hb => cDays j wx (hMr.below hb)
  clear hv hB hMr
  obtain ⟨y, hy⟩ : ∃ y : Int, ((2000 + j : Nat) : Int) = y := ⟨_, rfl⟩
  have HYj : Hid (((2000 + j : Nat) : Int) = y) := hy
  have hy1 : 2000 <= y := by omega
  have hy2 : y <= 2100 := by omega
  rw [hy] at A1 ⊢
  clear hy
  obtain ⟨C, hC⟩ : ∃ C : Array Value, monC j = C := ⟨_, rfl⟩
  rw [hC] at A1 A2
  obtain ⟨L, hL⟩ : ∃ L : Nat, 365 + lp j = L := ⟨_, rfl⟩
  have HL : Hid (365 + lp j = L) := hL
  have hL2 : L <= 366 := by rw [<- hL]; unfold lp; split <;> omega
  rw [hL] at A2
  clear hC hL
  by_cases hlt : j < k
  ·have hyi : decide (y < Y) = true := by have h1 := HY.out; have h2 := HYj.out; simp; omega
   go_wp2_with fail
   refine A1.mono ?_
   rintro e w1 ⟨rfl, hb1⟩
   go_wp2_with fail
   refine (A2 w1 hb1).mono ?_
   rintro e w2 ⟨rfl, hb2⟩
   have hB2 : Below w.heap.size w w2 := HB.out.trans ((hb1.trans (hb2.mono hb1.size)).mono HB.out.size)
   clear hb1 hb2 A1 A2
   go_wp2_with fail
   go_roundw
   case rel =>
    have h1 := HYj.out; have h2 := HV.out; have h3 := HL.out
    refine ⟨j + 1, v + L, by omega, by go_num, by rw [yb_succ, h3]; omega, ?_, hB2⟩
    rw [<- h1]; go_num
   case measure => have h1 := HYj.out; simp [intOf]; omega
  ·have hyi : decide (y < Y) = false := by have h1 := HY.out; have h2 := HYj.out; simp; omega
   have hje : j = k := by omega
   subst hje
   clear A1 A2
   go_wp2_with fail
   go_loopw [5, 7] (fun ds q wx => ∃ n u : Nat, 1 <= n /\ n <= m /\ ds = .int .i64 (u : Int) /\ u = yb j + mb (lp j) n /\ q = .int .i64 (n : Int) /\ Below w.heap.size w wx) (fun _ q _ => m - (intOf q).toNat)
   case atStart => exact ⟨1, v, by omega, hm1, rfl, by rw [HV.out]; rfl, rfl, HB.out⟩
   case round =>
    obtain ⟨n, u, hn1, hn2, rfl, hu, rfl, hB⟩ := hrel
    have hub : u <= 40000 := by
     have h1 := mb_lt_13 (lp j) n hn1 (by omega)
     have h2 : yb j <= 36525 := by unfold yb; omega
     have h3 : lp j <= 1 := by unfold lp; split <;> omega
     omega
    have HU : Hid (u = yb j + mb (lp j) n) := hu
    have HBx : Hid (Below w.heap.size w wr) := hB
    have A := cDaysI_in j n wr hk hn1 (by omega) (HM.out.below hB)
    obtain ⟨D, hD⟩ : ∃ D : Nat, dm (lp j) n = D := ⟨_, rfl⟩
    have hD2 : D <= 32 := by
     have := (dm_pos (lp j) n hn1 (by omega)).2
     have : lp j <= 1 := by unfold lp; split <;> omega
     omega
    have HD : Hid (dm (lp j) n = D) := hD
    rw [hD, HY.out] at A
    clear hu hB hD
    by_cases hlt2 : n < m
    ·go_wp2_with fail
     refine A.mono ?_
     rintro e w3 ⟨rfl, hb3⟩
     have hB3 : Below w.heap.size w w3 := HBx.out.trans (hb3.mono HBx.out.size)
     clear hb3
     go_wp2_with fail
     go_roundw
     case rel =>
      have h1 := HU.out; have h2 := HD.out
      exact ⟨n + 1, u + D, by omega, by omega, by go_num, by rw [mb_succ _ _ hn1 (by omega)]; omega, by go_num, hB3⟩
     case measure => simp [intOf]; omega
    ·have hne : n = m := by omega
     subst hne
     clear A
     go_wp2_with fail
     go_ret
     exact ⟨by rw [<- HU.out]; rfl, HBx.out⟩

end Go.Proofs.YtlpbbkaelbafdaaGreatDoor

namespace Go.Proofs.YtlpbbkaelbafdaaGreatDoor
open Go.RowKit

def restB (u : ByteArray) (j : Nat) : ByteArray := u.extract (off j) u.size
def fieldB (u : ByteArray) (j : Nat) : ByteArray := u.extract (off j) (off j + wid j)

theorem off_succ (j : Nat) : off (j + 1) = off j + wid j + 1 := by
 unfold off wid
 by_cases h : j = 0
 ·subst h; rfl
 ·rw [if_neg h, if_neg h, if_neg (by omega)]; omega

theorem off_le (j : Nat) (h : j <= 6) : off j <= 20 := by
 unfold off
 split <;> omega

theorem wid_le (j : Nat) : wid j <= 4 /\ 2 <= wid j := by
 unfold wid
 split <;> omega

theorem rest_size (u : ByteArray) (j : Nat) (hu : u.size = 20) (h : j <= 6) : (restB u j).size = 20 - off j := by
 unfold restB
 rw [ByteArray.size_extract, hu]
 omega

theorem extract_list (u : ByteArray) (a b : Nat) : (u.extract a b).data.toList = (u.data.toList.drop a).take (b - a) := by
 rw [ByteArray.data_extract, Array.toList_extract, List.extract_eq_take_drop]

theorem field_list (u : ByteArray) (j : Nat) : (fieldB u j).data.toList = fieldL u.data.toList j := by
 unfold fieldB fieldL
 rw [extract_list]
 congr 1
 omega

theorem field_size (u : ByteArray) (j : Nat) : (fieldB u j).size <= 15 := by
 rw [t_sz, field_list]
 unfold fieldL
 have := (wid_le j).1
 simp
 omega

theorem ext_list {a b : ByteArray} (h : a.data.toList = b.data.toList) : a = b := by
 apply ByteArray.ext
 apply Array.toList_inj.1
 exact h

theorem slice_lo (u : ByteArray) (j : Nat) (hu : u.size = 20) (h : j < 6) (W : World) :
  (Instr.slice 9 (.string (restB u j)) none (some (.int .i64 (wid j : Int))) none).run Tryz.prog W = .ok (.string (fieldB u j)) W := by
 have hs := rest_size u j hu (by omega)
 have ho := off_le (j + 1) (by omega)
 rw [off_succ] at ho
 rw [run_slice_string_to_if W 9 (restB u j) .i64 (wid j : Int) Tryz.underlying9]
 rw [if_pos (by rw [hs]; omega)]
 congr 2
 apply ext_list
 rw [field_list]
 unfold restB fieldL
 simp only [Int.toNat_natCast]
 rw [extract_list, extract_list, hu, List.drop_zero, Nat.sub_zero, List.take_take, Nat.min_eq_left (by omega)]

theorem slice_hi (u : ByteArray) (j : Nat) (hu : u.size = 20) (h : j < 6) (W : World) :
  (Instr.slice 9 (.string (restB u j)) (some (.int .i64 ((wid j : Int) + 1))) none none).run Tryz.prog W = .ok (.string (restB u (j + 1))) W := by
 have hs := rest_size u j hu (by omega)
 have ho := off_le (j + 1) (by omega)
 have hoo := off_succ j
 rw [off_succ] at ho
 rw [run_slice_string_from_if W 9 (restB u j) .i64 ((wid j : Int) + 1) Tryz.underlying9]
 rw [if_pos (by rw [hs]; omega)]
 congr 2
 apply ext_list
 have e : ((wid j : Int) + 1).toNat = wid j + 1 := by omega
 rw [hs, e]
 unfold restB
 rw [extract_list, extract_list, extract_list, hu, hoo]
 rw [List.drop_take, List.drop_drop, List.take_take]
 congr 1
 all_goals first | omega | (congr 1; omega)

def gN (l : List UInt8) (j q : Nat) : Int := if q < j then rdI (fieldL l q) else 0

def cellsN (g : Nat -> Int) : Array Value := #[.int .i64 (g 0), .int .i64 (g 1), .int .i64 (g 2), .int .i64 (g 3), .int .i64 (g 4), .int .i64 (g 5)]

theorem cells_setL (l : List UInt8) (j : Nat) (h : j < 6) : ([Value.int .i64 (gN l j 0), .int .i64 (gN l j 1), .int .i64 (gN l j 2), .int .i64 (gN l j 3), .int .i64 (gN l j 4), .int .i64 (gN l j 5)].set j (.int .i64 (rdI (fieldL l j)))).toArray = cellsN (gN l (j + 1)) := by
 rcases (show j = 0 \/ j = 1 \/ j = 2 \/ j = 3 \/ j = 4 \/ j = 5 by omega) with rfl | rfl | rfl | rfl | rfl | rfl <;> rfl

theorem rd_all {l : List UInt8} (h : l.all isDig = true) : (if l.all isDig = true then (valD l : Int) else 0) = rdI l := by
 unfold rdI
 rw [if_pos h, if_pos h]

theorem res_row (w : World) (G G' : Nat -> Int) (tmps : Array Value) (b : Bool) (h2 : tmps.getD 2 undef = .pointer (some ⟨w.heap.size, 0, none⟩)) (h3 : tmps.getD 3 undef = .bool b) :
  (results Tryz.f167 tmps).run Tryz.prog ((w.alloc (.cells (cellsN G) 166)).alloc (.cells (cellsN G') 166)) = .ok (.tuple #[.agg (cellsN G), .bool b]) ((w.alloc (.cells (cellsN G) 166)).alloc (.cells (cellsN G') 166)) := by
 have hh : ((w.alloc (.cells (cellsN G) 166)).alloc (.cells (cellsN G') 166)).heap[w.heap.size]? = some (.cells (cellsN G) 166 (0, 0)) := by
  rw [Below.heap_alloc _ _ _ (by simp)]
  exact heap_alloc_last w _
 have hl := run_loadVar_row (P := Tryz.prog) _ w.heap.size 166 166 (cellsN G) (0, 0) _ hh Tryz.underlying166 rfl (by kernel_rfl)
 have h2' : tmps[2]?.getD undef = .pointer (some ⟨w.heap.size, 0, none⟩) := by simpa using h2
 have h3' : tmps[3]?.getD undef = .bool b := by simpa using h3
 simp [results, Tryz.results167, h2', h3', asAddr, hl]

set_option maxHeartbeats 4000000 in
set_option maxRecDepth 4000 in
theorem cNumbers (u : ByteArray) (w : World) (hu : u.size = 20) :
  Calls Tryz.prog 167 #[.string u] w fun e w' => ∃ (g : Nat -> Int) (ok : Bool), e = .returned (.tuple #[.agg (cellsN g), .bool ok]) /\ (ok = true -> ∀ q, q < 6 -> g q = rdI (fieldL u.data.toList q) /\ 0 <= g q) /\ (ok = false -> ∃ q, q < 6 /\ rdI (fieldL u.data.toList q) = -1) /\ Below w.heap.size w w' := by
 have HU : Hid (u.size = 20) := hu
 have HU2 : Hid (u = restB u 0) := by
  show u = restB u 0
  apply ext_list
  unfold restB
  rw [extract_list]
  show _ = (u.data.toList.drop 0).take (u.size - 0)
  rw [List.drop_zero, Nat.sub_zero, t_sz, List.take_length]
 have hul : (u.size : Int) = 20 := by omega
 go_enter Tryz.func167, Tryz.ntmps167
 go_wp2_with fail
 go_loopw [0, 5, 13] (fun s wd i wr => ∃ j : Nat, i = .int .i64 (j : Int) /\ j <= 6 /\ s = .string (restB u j) /\ wd = .int .i64 (wid j : Int) /\ (∀ q, q < j -> 0 <= rdI (fieldL u.data.toList q)) /\ wr = (w.alloc (.cells (cellsN fun _ => 0) 166)).alloc (.cells (cellsN (gN u.data.toList j)) 166)) (fun _ _ i _ => 6 - (intOf i).toNat)
 case atStart => exact ⟨0, rfl, by omega, congrArg Value.string HU2.out, rfl, fun q hq => absurd hq (Nat.not_lt_zero q), rfl⟩
 case round =>
  obtain ⟨j, rfl, hj, rfl, rfl, hall, rfl⟩ := hrel
  have HAll : Hid (∀ q, q < j -> 0 <= rdI (fieldL u.data.toList q)) := hall
  clear hall hul hu
  by_cases hlt : j < 6
  ·have slo := slice_lo u j HU.out hlt
   have shi := slice_hi u j HU.out hlt
   have C := fun w => cDigitsI (fieldB u j) w (field_size u j)
   rw [field_list] at C
   have hwd := wid_le j
   have HW1 : Hid (wid (j + 1) = 2) := by show wid (j + 1) = 2; unfold wid; rw [if_neg (by omega)]
   have hset := cells_setL u.data.toList j hlt
   obtain ⟨r, hr⟩ : ∃ r, restB u j = r := ⟨_, rfl⟩
   obtain ⟨r', hr'⟩ : ∃ r', restB u (j + 1) = r' := ⟨_, rfl⟩
   obtain ⟨f, hf⟩ : ∃ f, fieldB u j = f := ⟨_, rfl⟩
   obtain ⟨wd, hwde⟩ : ∃ wd, wid j = wd := ⟨_, rfl⟩
   have HR' : Hid (restB u (j + 1) = r') := hr'
   rw [hr, hf, hwde] at slo
   rw [hr, hr', hwde] at shi
   rw [hf] at C
   rw [hwde] at hwd
   rw [hr, hwde]
   obtain ⟨hwd1, hwd2⟩ := hwd
   clear hr hr' hf hwde
   by_cases hd : (fieldL u.data.toList j).all isDig = true
   ·rw [rd_all hd, hd] at C
    have HP : Hid (0 <= rdI (fieldL u.data.toList j)) := by
     show 0 <= rdI (fieldL u.data.toList j)
     unfold rdI
     rw [if_pos hd]
     omega
    obtain ⟨v, hv⟩ : ∃ v, rdI (fieldL u.data.toList j) = v := ⟨_, rfl⟩
    rw [hv] at C hset
    have HV : Hid (rdI (fieldL u.data.toList j) = v) := hv
    have HS : Hid (_ = cellsN (gN u.data.toList (j + 1))) := hset
    obtain ⟨G, hG⟩ : ∃ G, gN u.data.toList j = G := ⟨_, rfl⟩
    rw [hG] at HS ⊢
    clear hset hv hd hG
    unfold cellsN at HS ⊢
    go_wp2_with fail
    refine (C _).mono ?_
    rintro e w' ⟨rfl, rfl⟩
    go_wp2_with fail
    go_roundw
    case rel =>
     refine ⟨j + 1, by go_num, by omega, by rw [HR'.out], by rw [HW1.out]; rfl, ?_, ?_⟩
     ·intro q hq
      rcases (show q < j \/ q = j by omega) with h | h
      ·exact HAll.out q h
      ·rw [h]; exact HP.out
     ·exact congrArg (fun c => (w.alloc (.cells (cellsN fun _ => 0) 166)).alloc (.cells c 166)) HS.out
    case measure => simp [intOf]; omega
   ·have hd' : (fieldL u.data.toList j).all isDig = false := by simpa using hd
    have HP : Hid (rdI (fieldL u.data.toList j) = -1) := by
     show rdI (fieldL u.data.toList j) = -1
     unfold rdI
     rw [if_neg hd]
    rw [if_neg hd, hd'] at C
    obtain ⟨G, hG⟩ : ∃ G, gN u.data.toList j = G := ⟨_, rfl⟩
    rw [hG]
    clear hset hd hd' hG shi
    unfold cellsN
    go_wp2_with fail
    refine (C _).mono ?_
    rintro e w' ⟨rfl, rfl⟩
    go_wp2_with fail
    refine bodyPost_ret (v := .tuple #[.agg (cellsN G), .bool false]) ?_ rfl ⟨G, false, rfl, fun h => by simp at h, fun _ => ⟨j, hlt, HP.out⟩, ?_⟩
    ·exact res_row w G G _ _ rfl rfl
    ·exact ((Below.refl _ _).alloc (Nat.le_refl _) _).alloc (by simp) _
  ·have hje : j = 6 := by omega
   subst hje
   obtain ⟨G, hG⟩ : ∃ G, gN u.data.toList 6 = G := ⟨_, rfl⟩
   have HG : Hid (∀ q, q < 6 -> G q = rdI (fieldL u.data.toList q) /\ 0 <= G q) := by
    show ∀ q, q < 6 -> G q = rdI (fieldL u.data.toList q) /\ 0 <= G q
    intro q hq
    have e : G q = rdI (fieldL u.data.toList q) := by rw [<- hG]; unfold gN; rw [if_pos hq]
    exact ⟨e, by rw [e]; exact HAll.out q hq⟩
   rw [hG]
   clear hG
   unfold cellsN
   go_wp2_with fail
   refine bodyPost_ret (v := .tuple #[.agg (cellsN G), .bool true]) ?_ rfl ⟨G, true, rfl, fun _ => HG.out, fun h => by simp at h, ?_⟩
   ·exact res_row w G G _ _ rfl rfl
   ·exact ((Below.refl _ _).alloc (Nat.le_refl _) _).alloc (by simp) _

end Go.Proofs.YtlpbbkaelbafdaaGreatDoor
