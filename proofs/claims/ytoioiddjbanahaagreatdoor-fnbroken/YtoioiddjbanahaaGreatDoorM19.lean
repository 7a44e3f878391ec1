/-  -/
import Derived.Test.YtoioiddjbanahaaGreatDoorM18
import Derived.Test.YtoioiddjbanahaaGreatDoorM1
import Derived.Test.YtoioiddjbanahaaGreatDoorM7
import Derived.Test.YtoioiddjbanahaaGreatDoorProg
import Derived.Test.YtoioiddjbanahaaGreatDoorRows
import Derived.Shelf.Strings.Repeat
import Derived.Shelf.Strconv.Itoa4
import Derived.Shelf.LaysM
import Derived.Shelf.Strings.Builder1
import Derived.Shelf.Strings.Prefix
import Derived.WalkKit
import Derived.OwnWalk
import Derived.Lib.Builder
import Derived.Lib.OthersKept
import Derived.Lib.AppendStr
import Derived.Laws.Externs
set_option linter.unusedVariables false
set_option linter.unusedSimpArgs false
namespace Go.Proofs.YtoioiddjbanahaaGreatDoor

open Go.RowKit

def lowN (l : List ByteArray) (s : ByteArray) : Nat := (l.takeWhile fun x => ltB x s).length

theorem lowN_is {l : List ByteArray} {s : ByteArray} {k : Nat} (hk : k <= l.length) (h1 : ∀ x ∈ l.take k, ltB x s = true) (h2 : ∀ h : k < l.length, ltB l[k] s = false) : lowN l s = k := by
 unfold lowN
 induction l generalizing k with
 | nil =>
  have : k = 0 := by simpa using hk
  subst this
  rfl
 | cons x l ih =>
  cases k with
  | zero =>
   have h := h2 (by simp)
   simp only [List.getElem_cons_zero] at h
   rw [List.takeWhile_cons, h]
   rfl
  | succ k =>
   rw [List.takeWhile_cons, h1 x (by simp)]
   simp only [if_true, List.length_cons]
   rw [ih (by simpa using hk) (fun y hy => h1 y (by simp [hy])) (fun h => by have := h2 (by simpa using h); simpa using this)]

noncomputable def putS (l : List ByteArray) (s : ByteArray) : List ByteArray := open Classical in if l[lowN l s]? = some s then l else l.take (lowN l s) ++ s :: l.drop (lowN l s)

theorem putS_there {l : List ByteArray} {s : ByteArray} {k : Nat} (h : lowN l s = k) (h1 : l[k]? = some s) : putS l s = l := by unfold putS; rw [h, if_pos h1]

theorem putS_new {l : List ByteArray} {s : ByteArray} {k : Nat} (h : lowN l s = k) (h1 : ¬ l[k]? = some s) : putS l s = l.take k ++ s :: l.drop k := by unfold putS; rw [h, if_neg h1]

theorem putS_len (l : List ByteArray) (s : ByteArray) : (putS l s).length <= l.length + 1 /\ l.length <= (putS l s).length := by
 unfold putS
 split
 ·omega
 ·rw [List.length_append, List.length_cons, List.length_take, List.length_drop]
  omega

theorem putS_mem {l : List ByteArray} {s x : ByteArray} (h : x ∈ putS l s) : x ∈ l \/ x = s := by
 unfold putS at h
 split at h
 ·exact .inl h
 ·rcases List.mem_append.1 h with h' | h'
  ·exact .inl (List.mem_of_mem_take h')
  ·rcases List.mem_cons.1 h' with h'' | h''
   ·exact .inr h''
   ·exact .inl (List.mem_of_mem_drop h'')

theorem infoS : (Tryz.prog.info? 9).map (fun i => (i.zero, i.size, i.bytes)) = some (some (.string ⟨#[]⟩), 1, 16) := by kernel_rfl

theorem keyV_app (l m : List ByteArray) : keyV (l ++ m) = keyV l ++ keyV m := by simp [keyV]

theorem sl_fromS (b o L cap k : Nat) (h : k <= L) (hL : L <= cap) (W : World) : (Instr.slice 38 (.slice (some ⟨b, o, none⟩) L cap) (some (.int .i64 k)) none none).run Tryz.prog W = .ok (.slice (some (if cap = k then ⟨b, o, none⟩ else ⟨b, o + k * 1, none⟩)) (L - k) (cap - k)) W := by
 have h' : (k : Int) <= L := by omega
 have h2 : (L : Int) <= cap := by omega
 go_simp
 by_cases e : cap = k <;> simp [e, Addr.add]

theorem sl_uptoS (b o L cap k : Nat) (h : k <= L) (hL : L <= cap) (W : World) : (Instr.slice 38 (.slice (some ⟨b, o, none⟩) L cap) none (some (.int .i64 k)) none).run Tryz.prog W = .ok (.slice (some ⟨b, o, none⟩) k cap) W := by
 have h' : (k : Int) <= L := by omega
 have h2 : (k : Int) <= cap := by omega
 have h3 : ¬ cap < k := by omega
 go_simp

set_option maxRecDepth 8000 in
set_option maxHeartbeats 4000000 in
theorem c_spec_l11Put (l : List ByteArray) (v : Value) (s : ByteArray) (w : World) (hR : Rd w 1 v l.length (keyV l)) (hn : l.length <= 100000) :
  Calls Tryz.prog 81 #[v, .string s] w fun e w' => ∃ v', e = .returned v' /\ Rd w' 1 v' (putS l s).length (keyV (putS l s)) /\ Below w.heap.size w w' := by
 obtain ⟨b, o, c, rfl, hb, hc, _⟩ := hR.at_
 obtain ⟨i0, hi, hz0, hz1, hz2⟩ := info_parts infoS
 have HI := hid (And.intro hi (And.intro hz0 (And.intro hz1 hz2)))
 have HR := hid hR
 clear hi hz0 hz1 hz2 hR hb
 obtain ⟨n, hnn⟩ : ∃ n, l.length = n := ⟨_, rfl⟩
 have HN := hid hnn
 rw [hnn] at hn hc HR ⊢
 clear hnn
 go_enter Tryz.func81, Tryz.ntmps81
 go_wp2_with fail
 go_loop [5] (fun x => ∃ k : Nat, x = .int .i64 (k : Int) /\ k <= n /\ Hid (∀ x ∈ l.take k, ltB x s = true)) (fun x => n - (intOf x).toNat)
 case atStart => exact ⟨0, rfl, Nat.zero_le _, fun x hx => absurd hx (by simp)⟩
 case round =>
  obtain ⟨k, rfl, hk, HA⟩ := hrel
  have hkn : (k : Int) <= (n : Int) := by omega
  by_cases hlt : k < n
  case neg =>
   have hkE : k = n := by omega
   have HPE := hid (putS_new (lowN_is (by rw [HN.out]; exact hk) HA.out (fun h => absurd h (by rw [HN.out]; exact hlt))) (show ¬ l[k]? = some s by rw [List.getElem?_eq_none (by rw [HN.out]; omega)]; exact fun h => by cases h))
   have hkl : ¬ (k : Int) < (n : Int) := by omega
   clear hkE
   have HRF := hid (HR.out.from hk)
   have HRU := hid (HR.out.upto hk)
   simp only [Nat.mul_one] at HRF HRU
   rw [show (keyV l).drop k = keyV (l.drop k) by simp [keyV]] at HRF
   rw [show (keyV l).take k = keyV (l.take k) by simp [keyV]] at HRU
   have hfr := sl_fromS b o n c k hk hc
   simp only [Nat.mul_one] at hfr
   have hup := sl_uptoS b o n c k hk hc
   generalize (if c = k then (⟨b, o, none⟩ : Addr) else ⟨b, o + k, none⟩) = A1 at *
   obtain ⟨hi, hz0, hz1, hz2⟩ := HI.out
   have HB1 := hid ((Below.refl w.heap.size w).alloc (Nat.le_refl _) (.cells #[] 9))
   have HO1 := hid (own_new w 9 1)
   have HF1 := hid (HRF.out.below HB1.out)
   go_wp2_with (at_builtin; refine wpL_own _ rfl _ _ _ rfl 9 i0 _ 1 16 Tryz.underlying38 hi hz0 hz1 hz2 rfl (by decide) w.heap.size w.heap.size 0 0 (n - k) [] (keyV (l.drop k)) _ rfl rfl HO1.out HF1.out (keyV_cell _) (by omega) (by omega) HB1.out.size (n - k) (by omega) (keyV (l.drop k)) rfl ?_)
   intro g2 c2 w2 ho2 hb2
   have HB2 := hid (HB1.out.trans hb2)
   have HRS := hid (Rd.own ho2)
   clear ho2 hb2 hfr HO1 HF1
   have HB3 := hid ((Below.refl w2.heap.size w2).alloc (Nat.le_refl _) (.cells #[] 9))
   have HO3 := hid (own_new w2 9 1)
   have HU3 := hid ((HRU.out.below HB2.out).below HB3.out)
   go_wp2_with (at_builtin; refine wpL_own _ rfl _ _ _ rfl 9 i0 _ 1 16 Tryz.underlying38 hi hz0 hz1 hz2 rfl (by decide) w2.heap.size w2.heap.size 0 0 k [] (keyV (l.take k)) _ rfl rfl HO3.out HU3.out (keyV_cell _) (by omega) (by omega) HB3.out.size k (by omega) (keyV (l.take k)) rfl ?_)
   intro g4 c4 w4 ho4 hb4
   have HB4 := hid (HB3.out.trans hb4)
   have HO4 := hid ho4
   clear ho4 hb4 hup HO3 HU3
   have HB5 := hid ((Below.refl w4.heap.size w4).alloc (Nat.le_refl _) (.cells #[.string s] 9))
   have HO5 := hid (ownsRow_below HO4.out HB5.out)
   have HN5 := hid (Rd.new w4 9 1 [.string s] 1 rfl)
   go_wp2_with (at_builtin; refine wpL_own _ rfl _ _ _ rfl 9 i0 _ 1 16 Tryz.underlying38 hi hz0 hz1 hz2 rfl (by decide) w2.heap.size g4 c4 k 1 (keyV (l.take k)) [.string s] _ rfl rfl HO5.out HN5.out (keyV_cell [s]) (by omega) (by omega) (Nat.le_trans HB4.out.size HB5.out.size) (k + 1) rfl (keyV (l.take k ++ [s])) (by rw [keyV_app]; rfl) ?_)
   intro g6 c6 w6 ho6 hb6
   have HB6 := hid ((HB4.out.trans (HB5.out.mono HB4.out.size)).trans hb6)
   have HO6 := hid ho6
   clear ho6 hb6 HO5 HN5 HO4
   have HR6 := hid (HRS.out.below HB6.out)
   go_wp2_with (at_builtin; refine wpL_own _ rfl _ _ _ rfl 9 i0 _ 1 16 Tryz.underlying38 hi hz0 hz1 hz2 rfl (by decide) w2.heap.size g6 c6 (k + 1) (n - k) (keyV (l.take k ++ [s])) (keyV (l.drop k)) _ rfl rfl HO6.out HR6.out (keyV_cell _) (by omega) (by omega) HB6.out.size (n + 1) (by omega) (keyV (l.take k ++ s :: l.drop k)) (by rw [<- keyV_app, List.append_assoc]; rfl) ?_)
   intro g8 c8 w8 ho8 hb8
   have HB8 := hid (HB2.out.trans ((HB6.out.trans hb8).mono HB2.out.size))
   have HR8 := hid (Rd.own ho8)
   clear ho8 hb8
   have HLN := hid (show (l.take k ++ s :: l.drop k).length = n + 1 by
    rw [List.length_append, List.length_cons, List.length_take, List.length_drop, HN.out]
    omega)
   go_wp2_with fail
   go_ret
   exact ⟨_, rfl, by rw [HPE.out, HLN.out]; exact HR8.out, HB8.out⟩
  have hks : k < l.length := by rw [HN.out]; exact hlt
  have hkl : (k : Int) < (n : Int) := by omega
  obtain ⟨b', o', c', e', hb, _, hcell⟩ := HR.out.key hks
  obtain ⟨rfl, rfl⟩ : b = b' /\ o = o' := by cases e'; exact ⟨rfl, rfl⟩
  clear e'
  cases hq : ltB l[k] s with
  | true =>
   have HA2 := hid (show ∀ x ∈ l.take (k + 1), ltB x s = true from fun x hx => by
    rw [take_snocN hks] at hx
    rcases List.mem_append.1 hx with h' | h'
    ·exact HA.out x h'
    ·rw [List.mem_singleton.1 h']; exact hq)
   unfold ltB at hq
   generalize l[k] = y at *
   go_wp2_with fail
   go_round
   case rel => exact ⟨k + 1, by go_num, by omega, HA2.out⟩
   case measure => simp [intOf]; omega
  | false =>
   have HLW := hid (lowN_is (by rw [HN.out]; exact hk) HA.out (fun h => hq))
   have HLG := hid (List.getElem?_eq_getElem hks)
   unfold ltB at hq
   cases hqe : (l[k].toList == s.toList) with
   | true =>
    have hes : l[k] = s := by
     rw [str_beq] at hqe
     simpa using hqe
    have HPE := hid (putS_there HLW.out (show l[k]? = some s by rw [HLG.out, hes]))
    clear hes
    generalize l[k] = y at *
    go_wp2_with fail
    go_ret
    exact ⟨_, rfl, by rw [HPE.out, HN.out]; exact HR.out, Below.refl _ _⟩
   | false =>
    have HPE := hid (putS_new HLW.out (show ¬ l[k]? = some s by
     rw [HLG.out]
     intro h
     have := Option.some.inj h
     rw [this, str_beq] at hqe
     simp at hqe))
    generalize l[k] = y at *
    have HRF := hid (HR.out.from hk)
    have HRU := hid (HR.out.upto hk)
    simp only [Nat.mul_one] at HRF HRU
    rw [show (keyV l).drop k = keyV (l.drop k) by simp [keyV]] at HRF
    rw [show (keyV l).take k = keyV (l.take k) by simp [keyV]] at HRU
    have hfr := sl_fromS b o n c k hk hc
    simp only [Nat.mul_one] at hfr
    have hup := sl_uptoS b o n c k hk hc
    generalize (if c = k then (⟨b, o, none⟩ : Addr) else ⟨b, o + k, none⟩) = A1 at *
    obtain ⟨hi, hz0, hz1, hz2⟩ := HI.out
    have HB1 := hid ((Below.refl w.heap.size w).alloc (Nat.le_refl _) (.cells #[] 9))
    have HO1 := hid (own_new w 9 1)
    have HF1 := hid (HRF.out.below HB1.out)
    go_wp2_with (at_builtin; refine wpL_own _ rfl _ _ _ rfl 9 i0 _ 1 16 Tryz.underlying38 hi hz0 hz1 hz2 rfl (by decide) w.heap.size w.heap.size 0 0 (n - k) [] (keyV (l.drop k)) _ rfl rfl HO1.out HF1.out (keyV_cell _) (by omega) (by omega) HB1.out.size (n - k) (by omega) (keyV (l.drop k)) rfl ?_)
    intro g2 c2 w2 ho2 hb2
    have HB2 := hid (HB1.out.trans hb2)
    have HRS := hid (Rd.own ho2)
    clear ho2 hb2 hfr HO1 HF1
    have HB3 := hid ((Below.refl w2.heap.size w2).alloc (Nat.le_refl _) (.cells #[] 9))
    have HO3 := hid (own_new w2 9 1)
    have HU3 := hid ((HRU.out.below HB2.out).below HB3.out)
    go_wp2_with (at_builtin; refine wpL_own _ rfl _ _ _ rfl 9 i0 _ 1 16 Tryz.underlying38 hi hz0 hz1 hz2 rfl (by decide) w2.heap.size w2.heap.size 0 0 k [] (keyV (l.take k)) _ rfl rfl HO3.out HU3.out (keyV_cell _) (by omega) (by omega) HB3.out.size k (by omega) (keyV (l.take k)) rfl ?_)
    intro g4 c4 w4 ho4 hb4
    have HB4 := hid (HB3.out.trans hb4)
    have HO4 := hid ho4
    clear ho4 hb4 hup HO3 HU3
    have HB5 := hid ((Below.refl w4.heap.size w4).alloc (Nat.le_refl _) (.cells #[.string s] 9))
    have HO5 := hid (ownsRow_below HO4.out HB5.out)
    have HN5 := hid (Rd.new w4 9 1 [.string s] 1 rfl)
    go_wp2_with (at_builtin; refine wpL_own _ rfl _ _ _ rfl 9 i0 _ 1 16 Tryz.underlying38 hi hz0 hz1 hz2 rfl (by decide) w2.heap.size g4 c4 k 1 (keyV (l.take k)) [.string s] _ rfl rfl HO5.out HN5.out (keyV_cell [s]) (by omega) (by omega) (Nat.le_trans HB4.out.size HB5.out.size) (k + 1) rfl (keyV (l.take k ++ [s])) (by rw [keyV_app]; rfl) ?_)
    intro g6 c6 w6 ho6 hb6
    have HB6 := hid ((HB4.out.trans (HB5.out.mono HB4.out.size)).trans hb6)
    have HO6 := hid ho6
    clear ho6 hb6 HO5 HN5 HO4
    have HR6 := hid (HRS.out.below HB6.out)
    go_wp2_with (at_builtin; refine wpL_own _ rfl _ _ _ rfl 9 i0 _ 1 16 Tryz.underlying38 hi hz0 hz1 hz2 rfl (by decide) w2.heap.size g6 c6 (k + 1) (n - k) (keyV (l.take k ++ [s])) (keyV (l.drop k)) _ rfl rfl HO6.out HR6.out (keyV_cell _) (by omega) (by omega) HB6.out.size (n + 1) (by omega) (keyV (l.take k ++ s :: l.drop k)) (by rw [<- keyV_app, List.append_assoc]; rfl) ?_)
    intro g8 c8 w8 ho8 hb8
    have HB8 := hid (HB2.out.trans ((HB6.out.trans hb8).mono HB2.out.size))
    have HR8 := hid (Rd.own ho8)
    clear ho8 hb8
    have HLN := hid (show (l.take k ++ s :: l.drop k).length = n + 1 by
     rw [List.length_append, List.length_cons, List.length_take, List.length_drop, HN.out]
     omega)
    go_wp2_with fail
    go_ret
    exact ⟨_, rfl, by rw [HPE.out, HLN.out]; exact HR8.out, HB8.out⟩

end Go.Proofs.YtoioiddjbanahaaGreatDoor

namespace Go.Proofs.YtoioiddjbanahaaGreatDoor

open Go.RowKit

noncomputable def lastF (l : List At) (p : ByteArray) : Option ByteArray := open Classical in (l.reverse.find? fun x => decide (x.name = p)).map (·.value)

theorem last_hit {l : List At} {p : ByteArray} {i : Nat} (h : i < l.length) (h1 : l[i].name = p) (h2 : ∀ x ∈ l.drop (i + 1), ¬ x.name = p) : lastF l p = some l[i].value := by
 unfold lastF
 have e : l.reverse = (l.drop (i + 1)).reverse ++ (l[i] :: (l.take i).reverse) := by
  conv => lhs; rw [<- List.take_append_drop i l, List.drop_eq_getElem_cons h]
  rw [List.reverse_append, List.reverse_cons, List.append_assoc]
  rfl
 rw [e, List.find?_append]
 have e2 : (l.drop (i + 1)).reverse.find? (fun x => decide (x.name = p)) = none := by
  rw [List.find?_eq_none]
  intro x hx
  rw [List.mem_reverse] at hx
  simp [h2 x hx]
 rw [e2, List.find?_cons]
 simp [h1]

theorem last_none {l : List At} {p : ByteArray} (h : ∀ x ∈ l, ¬ x.name = p) : lastF l p = none := by
 unfold lastF
 rw [show l.reverse.find? (fun x => decide (x.name = p)) = none by
  rw [List.find?_eq_none]
  intro x hx
  rw [List.mem_reverse] at hx
  simp [h x hx]]
 rfl

set_option maxRecDepth 4000 in
set_option maxHeartbeats 2000000 in
theorem c_spec_l11Last (a : Option Addr) (cap : Nat) (l : List At) (p : ByteArray) (w : World) (hR : AtRow w a l) (hn : l.length <= 1048576) :
  Calls Tryz.prog 83 #[.slice a l.length cap, .string p] w fun e w' => e = .returned (.tuple #[.string ((lastF l p).getD ⟨#[]⟩), .bool (lastF l p).isSome]) /\ Below w.heap.size w w' := by
 obtain ⟨V, hV⟩ : ∃ V, lastF l p = V := ⟨_, rfl⟩
 have HV := hid hV
 rw [hV]
 clear hV
 have HR := hid hR
 clear hR
 obtain ⟨n, hnn⟩ : ∃ n, l.length = n := ⟨_, rfl⟩
 have HN := hid hnn
 rw [hnn] at hn ⊢
 clear hnn
 go_enter Tryz.func83, Tryz.ntmps83
 go_wp2_with fail
 go_loopw [6] (fun k wr => ∃ i : Nat, k = .int .i64 ((i : Int) - 1) /\ i <= n /\ Hid (∀ x ∈ l.drop i, ¬ x.name = p) /\ Hid (Below w.heap.size w wr)) (fun k _ => (intOf k + 1).toNat)
 case atStart => exact ⟨n, rfl, Nat.le_refl _, by show ∀ x ∈ _, _; rw [List.drop_of_length_le (by rw [HN.out]; exact Nat.le_refl _)]; exact fun x hx => absurd hx List.not_mem_nil, Below.refl _ _⟩
 case round =>
  obtain ⟨i, rfl, hi, HO, HB⟩ := hrel
  cases i with
  | zero =>
   have HF := hid (show V = none by rw [<- HV.out]; exact last_none HO.out)
   have e0 : ((0 : Nat) : Int) - 1 = -1 := rfl
   rw [e0]
   go_wp2_with fail
   go_ret2
   exact ⟨by rw [HF.out]; rfl, HB.out⟩
  | succ i =>
   have e0 : ((i + 1 : Nat) : Int) - 1 = (i : Int) := by omega
   rw [e0]
   have his : i < l.length := by rw [HN.out]; exact hi
   have hin : (i : Int) < (n : Int) := by omega
   have hi0 : (0 : Int) <= (i : Int) := by omega
   obtain ⟨b, o, rfl, hb, c1, c2⟩ := HR.out.below HB.out i his
   have HIT := hid (show l[i].name = p -> V = some l[i].value from fun h => by rw [<- HV.out]; exact last_hit his h HO.out)
   have HNX := hid (show ¬ l[i].name = p -> ∀ x ∈ l.drop i, ¬ x.name = p from fun h x hx => by
    rw [List.drop_eq_getElem_cons his] at hx
    rcases List.mem_cons.1 hx with rfl | h'
    ·exact h
    ·exact HO.out x h')
   have hd := str_beq l[i].name p
   obtain ⟨X, hX⟩ : ∃ X, l[i].name = X := ⟨_, rfl⟩
   obtain ⟨Y, hY⟩ : ∃ Y, l[i].value = Y := ⟨_, rfl⟩
   rw [hX] at c1 hd HIT HNX
   rw [hY] at c2 HIT
   clear hX hY
   by_cases hq : X = p
   ·have HF := hid (HIT.out hq)
    rw [decide_eq_true hq] at hd
    clear hq HIT HNX
    go_wp2_with fail
    go_ret2
    exact ⟨by rw [HF.out]; rfl, HB.out⟩
   ·have HN2 := hid (HNX.out hq)
    rw [decide_eq_false hq] at hd
    clear hq HIT HNX
    go_wp2_with fail
    go_roundw
    case rel => exact ⟨i, by go_num, by omega, HN2.out, HB.out⟩
    case measure => simp [intOf]

end Go.Proofs.YtoioiddjbanahaaGreatDoor

namespace Go.Proofs

open Go.Shelf

def Tryz.lays169_ren : Go.Shelf.Ren := ⟨fun | 169 => 176 | n => n, fun | 70 => 211 | 9 => 9 | 0 => 0 | 72 => 213 | 37 => 22 | 127 => 223 | 3 => 3 | 5 => 5 | n => n, fun | n => n⟩

theorem Tryz.lays169 : Go.Proofs.Lays.n169 Tryz.prog Tryz.lays169_ren := {
 mixed := by kernel_rfl
 f169 := Tryz.func176.trans (congrArg some (by kernel_rfl))
 t0 := Tryz.underlying0
 a0 := Tryz.isAgg0
 z0 := Tryz.sizeOf0
 v0 := Tryz.zeroValue0
 t3 := Tryz.underlying3
 a3 := Tryz.isAgg3
 z3 := Tryz.sizeOf3
 v3 := Tryz.zeroValue3
 t9 := Tryz.underlying9
 a9 := Tryz.isAgg9
 z9 := Tryz.sizeOf9
 v9 := Tryz.zeroValue9
 t37 := Tryz.underlying22
 a37 := Tryz.isAgg22
 z37 := Tryz.sizeOf22
 v37 := Tryz.zeroValue22
 t70 := Tryz.underlying211
 a70 := Tryz.isAgg211
 z70 := Tryz.sizeOf211
 v70 := Tryz.zeroValue211
 t72 := Tryz.underlying213
 a72 := Tryz.isAgg213
 z72 := Tryz.sizeOf213
 v72 := Tryz.zeroValue213
 t127 := Tryz.underlying223
 a127 := Tryz.isAgg223
 z127 := Tryz.sizeOf223
 v127 := Tryz.zeroValue223 }

theorem Tryz.Builder_Extra_169 : Builder.Extra Tryz.prog Tryz.lays169_ren := {
 sizeBuilder := by kernel_rfl
 liesBuilder := by kernel_rfl
 t5 := Tryz.underlying5
 a5 := Tryz.isAgg5
 z5 := Tryz.sizeOf5
 v5 := Tryz.zeroValue5
 infoByte := by kernel_rfl
 cellsByte := by kernel_rfl
 sizeByte := by kernel_rfl
 neB5 := by decide }

open Go.RowKit in
theorem Tryz.Builder_String_any (B b : Nat) (l : List UInt8) (w : World) (h : Lib.IsBuilder 213 5 B b (Lib.byteCells l) w) (hBw : B <= w.heap.size) :
  Calls Tryz.prog 176 #[.pointer (some ⟨b, 0, none⟩)] w fun e w' => e = .returned (.string ⟨l.toArray⟩) /\ Below B w w' := Any.Builder_String_any Tryz.lays169 Tryz.Builder_Extra_169 B b l w h hBw

def Tryz.laysM173_ren : Go.Shelf.Ren := ⟨fun | 173 => 130 | 246 => 170 | 283 => 197 | 284 => 198 | 285 => 199 | 286 => 200 | 129 => 217 | 317 => 216 | 318 => 218 | 319 => 219 | 320 => 220 | 337 => 242 | 338 => 243 | n => n, fun | 2 => 2 | 3 => 3 | 9 => 9 | 4 => 4 | 171 => 234 | 0 => 0 | 53 => 235 | 37 => 22 | 5 => 5 | 173 => 238 | 212 => 252 | 51 => 240 | 20 => 20 | 213 => 253 | 46 => 186 | 232 => 281 | 233 => 282 | n => n, fun | 17 => 0 | 18 => 2 | 19 => 3 | n => n⟩

theorem Tryz.laysM173 : Go.Proofs.LaysM.n173 Tryz.prog Tryz.laysM173_ren := {
 mixed := by kernel_rfl
 f129 := Tryz.func217.trans (congrArg some (by kernel_rfl))
 f173 := Tryz.func130.trans (congrArg some (by kernel_rfl))
 f246 := Tryz.func170.trans (congrArg some (by kernel_rfl))
 f283 := Tryz.func197.trans (congrArg some (by kernel_rfl))
 f284 := Tryz.func198.trans (congrArg some (by kernel_rfl))
 f285 := Tryz.func199.trans (congrArg some (by kernel_rfl))
 f286 := Tryz.func200.trans (congrArg some (by kernel_rfl))
 f317 := Tryz.func216.trans (congrArg some (by kernel_rfl))
 f318 := Tryz.func218.trans (congrArg some (by kernel_rfl))
 f319 := Tryz.func219.trans (congrArg some (by kernel_rfl))
 f320 := Tryz.func220.trans (congrArg some (by kernel_rfl))
 f337 := Tryz.func242.trans (congrArg some (by kernel_rfl))
 f338 := Tryz.func243.trans (congrArg some (by kernel_rfl))
 t0 := Tryz.underlying0
 a0 := Tryz.isAgg0
 z0 := Tryz.sizeOf0
 v0 := Tryz.zeroValue0
 t2 := Tryz.underlying2
 a2 := Tryz.isAgg2
 z2 := Tryz.sizeOf2
 v2 := Tryz.zeroValue2
 t3 := Tryz.underlying3
 a3 := Tryz.isAgg3
 z3 := Tryz.sizeOf3
 v3 := Tryz.zeroValue3
 t4 := Tryz.underlying4
 a4 := Tryz.isAgg4
 z4 := Tryz.sizeOf4
 v4 := Tryz.zeroValue4
 t5 := Tryz.underlying5
 a5 := Tryz.isAgg5
 z5 := Tryz.sizeOf5
 v5 := Tryz.zeroValue5
 t9 := Tryz.underlying9
 a9 := Tryz.isAgg9
 z9 := Tryz.sizeOf9
 v9 := Tryz.zeroValue9
 t20 := Tryz.underlying20
 a20 := Tryz.isAgg20
 z20 := Tryz.sizeOf20
 v20 := Tryz.zeroValue20
 t37 := Tryz.underlying22
 a37 := Tryz.isAgg22
 z37 := Tryz.sizeOf22
 v37 := Tryz.zeroValue22
 t46 := Tryz.underlying186
 a46 := Tryz.isAgg186
 z46 := Tryz.sizeOf186
 v46 := Tryz.zeroValue186
 t51 := Tryz.underlying240
 a51 := Tryz.isAgg240
 z51 := Tryz.sizeOf240
 v51 := Tryz.zeroValue240
 t53 := Tryz.underlying235
 a53 := Tryz.isAgg235
 z53 := Tryz.sizeOf235
 v53 := Tryz.zeroValue235
 t171 := Tryz.underlying234
 a171 := Tryz.isAgg234
 z171 := Tryz.sizeOf234
 v171 := Tryz.zeroValue234
 t173 := Tryz.underlying238
 a173 := Tryz.isAgg238
 z173 := Tryz.sizeOf238
 v173 := Tryz.zeroValue238
 t212 := Tryz.underlying252
 a212 := Tryz.isAgg252
 z212 := Tryz.sizeOf252
 v212 := Tryz.zeroValue252
 t213 := Tryz.underlying253
 a213 := Tryz.isAgg253
 z213 := Tryz.sizeOf253
 t232 := Tryz.underlying281
 a232 := Tryz.isAgg281
 z232 := Tryz.sizeOf281
 v232 := Tryz.zeroValue281
 t233 := Tryz.underlying282
 a233 := Tryz.isAgg282
 z233 := Tryz.sizeOf282
 v233 := Tryz.zeroValue282
 g17 := by kernel_rfl
 g18 := by kernel_rfl
 g19 := by kernel_rfl
 i0 := by kernel_rfl
 i2 := by kernel_rfl
 i3 := by kernel_rfl
 i4 := by kernel_rfl
 i5 := by kernel_rfl
 i9 := by kernel_rfl
 i20 := by kernel_rfl
 i37 := by kernel_rfl
 i46 := by kernel_rfl
 i51 := by kernel_rfl
 i53 := by kernel_rfl
 i171 := by kernel_rfl
 i173 := by kernel_rfl
 i212 := by kernel_rfl
 i232 := by kernel_rfl
 i233 := by kernel_rfl
 m17 := by kernel_rfl
 m18 := by kernel_rfl
 m19 := by kernel_rfl }

open Go.RowKit Go.Sort Go.Lib in
theorem Tryz.strconv_FormatInt_10 (n : Int) (h0 : -9223372036854775808 <= n) (h1 : n <= 9223372036854775807) (w : World) (htab : Lib.TabIs Tryz.prog w "internal/strconv.uint64pow10" .u64 Lib.pow10Tab) :
  Calls Tryz.prog 130 #[.int .i64 n, .int .i64 10] w fun e w' => e = .returned (.string ⟨(Lib.itoa n).toArray⟩) /\ ∃ k os, w' = grow (w.drewN k) os := Any.strconv_FormatInt_10 Tryz.laysM173 n h0 h1 w htab

def Tryz.lays105_ren : Go.Shelf.Ren := ⟨fun | 105 => 131 | 212 => 171 | 99 => 172 | 165 => 173 | 166 => 174 | 170 => 175 | 169 => 176 | 263 => 201 | 264 => 202 | 206 => 203 | 240 => 204 | 241 => 205 | 276 => 221 | 277 => 222 | n => n, fun | 9 => 9 | 3 => 3 | 4 => 4 | 20 => 20 | 0 => 0 | 46 => 186 | 109 => 209 | 5 => 5 | 72 => 213 | 76 => 217 | 51 => 240 | 146 => 241 | 53 => 235 | 148 => 243 | 70 => 211 | 37 => 22 | 75 => 216 | 127 => 223 | 164 => 255 | 80 => 60 | n => n, fun | n => n⟩

theorem Tryz.lays105 : Go.Proofs.Lays.n105 Tryz.prog Tryz.lays105_ren := {
 mixed := by kernel_rfl
 f99 := Tryz.func172.trans (congrArg some (by kernel_rfl))
 f105 := Tryz.func131.trans (congrArg some (by kernel_rfl))
 f165 := Tryz.func173.trans (congrArg some (by kernel_rfl))
 f166 := Tryz.func174.trans (congrArg some (by kernel_rfl))
 f169 := Tryz.func176.trans (congrArg some (by kernel_rfl))
 f170 := Tryz.func175.trans (congrArg some (by kernel_rfl))
 f206 := Tryz.func203.trans (congrArg some (by kernel_rfl))
 f212 := Tryz.func171.trans (congrArg some (by kernel_rfl))
 f240 := Tryz.func204.trans (congrArg some (by kernel_rfl))
 f241 := Tryz.func205.trans (congrArg some (by kernel_rfl))
 f263 := Tryz.func201.trans (congrArg some (by kernel_rfl))
 f264 := Tryz.func202.trans (congrArg some (by kernel_rfl))
 f276 := Tryz.func221.trans (congrArg some (by kernel_rfl))
 f277 := Tryz.func222.trans (congrArg some (by kernel_rfl))
 t0 := Tryz.underlying0
 a0 := Tryz.isAgg0
 z0 := Tryz.sizeOf0
 v0 := Tryz.zeroValue0
 t3 := Tryz.underlying3
 a3 := Tryz.isAgg3
 z3 := Tryz.sizeOf3
 v3 := Tryz.zeroValue3
 t4 := Tryz.underlying4
 a4 := Tryz.isAgg4
 z4 := Tryz.sizeOf4
 v4 := Tryz.zeroValue4
 t5 := Tryz.underlying5
 a5 := Tryz.isAgg5
 z5 := Tryz.sizeOf5
 v5 := Tryz.zeroValue5
 t9 := Tryz.underlying9
 a9 := Tryz.isAgg9
 z9 := Tryz.sizeOf9
 v9 := Tryz.zeroValue9
 t20 := Tryz.underlying20
 a20 := Tryz.isAgg20
 z20 := Tryz.sizeOf20
 v20 := Tryz.zeroValue20
 t37 := Tryz.underlying22
 a37 := Tryz.isAgg22
 z37 := Tryz.sizeOf22
 v37 := Tryz.zeroValue22
 t46 := Tryz.underlying186
 a46 := Tryz.isAgg186
 z46 := Tryz.sizeOf186
 v46 := Tryz.zeroValue186
 t51 := Tryz.underlying240
 a51 := Tryz.isAgg240
 z51 := Tryz.sizeOf240
 v51 := Tryz.zeroValue240
 t53 := Tryz.underlying235
 a53 := Tryz.isAgg235
 z53 := Tryz.sizeOf235
 v53 := Tryz.zeroValue235
 t70 := Tryz.underlying211
 a70 := Tryz.isAgg211
 z70 := Tryz.sizeOf211
 v70 := Tryz.zeroValue211
 t72 := Tryz.underlying213
 a72 := Tryz.isAgg213
 z72 := Tryz.sizeOf213
 v72 := Tryz.zeroValue213
 t75 := Tryz.underlying216
 a75 := Tryz.isAgg216
 z75 := Tryz.sizeOf216
 v75 := Tryz.zeroValue216
 t76 := Tryz.underlying217
 a76 := Tryz.isAgg217
 z76 := Tryz.sizeOf217
 v76 := Tryz.zeroValue217
 t109 := Tryz.underlying209
 a109 := Tryz.isAgg209
 z109 := Tryz.sizeOf209
 v109 := Tryz.zeroValue209
 t127 := Tryz.underlying223
 a127 := Tryz.isAgg223
 z127 := Tryz.sizeOf223
 v127 := Tryz.zeroValue223
 t146 := Tryz.underlying241
 a146 := Tryz.isAgg241
 z146 := Tryz.sizeOf241
 v146 := Tryz.zeroValue241
 t148 := Tryz.underlying243
 a148 := Tryz.isAgg243
 z148 := Tryz.sizeOf243
 v148 := Tryz.zeroValue243
 t164 := Tryz.underlying255
 a164 := Tryz.isAgg255
 z164 := Tryz.sizeOf255
 v164 := Tryz.zeroValue255 }

theorem Tryz.Builder_Extra_105 : Builder.Extra Tryz.prog Tryz.lays105_ren := {
 sizeBuilder := by kernel_rfl
 liesBuilder := by kernel_rfl
 t5 := Tryz.underlying5
 a5 := Tryz.isAgg5
 z5 := Tryz.sizeOf5
 v5 := Tryz.zeroValue5
 infoByte := by kernel_rfl
 cellsByte := by kernel_rfl
 sizeByte := by kernel_rfl
 neB5 := by decide }

open Go.RowKit Go.Lib in
theorem Tryz.strings_Repeat (s : ByteArray) (c : Nat) (w : World) (hc : c <= 9223372036854775807) (hlen : s.size * c <= 140737488355328) :
  Calls Tryz.prog 131 #[.string s, .int .i64 c] w fun e w' => e = .returned (.string ⟨(Lib.repeatL s.data.toList c).toArray⟩) /\ Below w.heap.size w w' := Any.strings_Repeat Tryz.lays105 Tryz.Builder_Extra_105 s c w hc hlen

end Go.Proofs

namespace Go.Proofs.YtoioiddjbanahaaGreatDoor

open Go.RowKit

theorem row_kind {w : World} {B : Nat} {e : TypeId} {v : Value} {n : Nat} {xs : List Value} (h : w.ownsRow B e 1 v n xs) : ∀ g, v.ownBlock = some g -> ∃ c fz, w.heap[g]? = some (.cells c e fz) := by
 intro g hg
 rcases h.2 with ⟨rfl, _⟩ | ⟨g', cap, cur, rfl, _, hgg, _⟩
 ·simp [Value.ownBlock] at hg
 ·simp [Value.ownBlock] at hg
  subst hg
  exact ⟨cur, _, hgg⟩

set_option maxRecDepth 100000 in
theorem cc_used (b : Nat) (w : World) (h0 : w.cell? ⟨b, 0, none⟩ = some (.pointer (some ⟨b, 0, none⟩))) :
  Calls Tryz.prog 204 #[.pointer (some ⟨b, 0, none⟩)] w fun e w' => e = .returned (.tuple #[]) /\ w' = w := by
 obtain ⟨j, hj, _⟩ := Option.map_eq_some_iff.1 Tryz.Builder_Extra_169.sizeBuilder
 go_enter Tryz.func204, Tryz.ntmps204
 go_wp2
 rw [Lib.run_neq_ptr_same w _ Tryz.underlying211 hj]
 go_wp2
 go_end0
 exact ⟨rfl, rfl⟩

set_option maxHeartbeats 1000000 in
set_option maxRecDepth 100000 in
theorem cc_fresh (b : Nat) (w : World) (h0 : w.cell? ⟨b, 0, none⟩ = some (.pointer none)) (hsh : w.shape? b = some (213, 2)) (hfz : w.frozen? ⟨b, 0, none⟩ = false) :
  Calls Tryz.prog 204 #[.pointer (some ⟨b, 0, none⟩)] w fun e w' => e = .returned (.tuple #[]) /\ w' = w.setCell ⟨b, 0, none⟩ (.pointer (some ⟨b, 0, none⟩)) := by
 obtain ⟨j, hj, hjs⟩ := Option.map_eq_some_iff.1 Tryz.Builder_Extra_169.sizeBuilder
 go_enter Tryz.func204, Tryz.ntmps204
 go_wp2
 rw [Lib.run_to_unsafe w ⟨b, 0, none⟩ Tryz.underlying211 Tryz.underlying255 hj (by rw [hjs]; decide) hsh (Nat.zero_lt_succ 1)]
 simp only [Result.andThen]
 rw [Oper.upon_value]
 go_wp2
 rw [run_callFunc_extern Tryz.func221 (by kernel_rfl) (by kernel_rfl) (by kernel_rfl) (e := Extern.AbiNoEscape.same) (by kernel_rfl)]
 rw [Lib.run_noEscape]
 simp only [Result.andThen]
 rw [Oper.upon_value]
 go_wp2
 rw [Lib.run_from_unsafe w ⟨b, 0, none⟩ Tryz.underlying255 Tryz.underlying211 hj hsh Tryz.Builder_Extra_169.liesBuilder]
 simp only [Result.andThen]
 rw [Oper.upon_value]
 go_wp2
 go_end0
 exact ⟨rfl, rfl⟩

theorem cc_any (B b : Nat) (bs : List Value) (w : World) (h : Lib.IsBuilder 213 5 B b bs w) :
  Calls Tryz.prog 204 #[.pointer (some ⟨b, 0, none⟩)] w fun e w' => e = .returned (.tuple #[]) /\ (Lib.BuilderAt 213 5 B b (.pointer (some ⟨b, 0, none⟩)) bs w' /\ Below B w w' /\ Lib.OthersKept 5 (some b) w w') := by
 rcases h with h | h
 ·refine (cc_fresh b w h.cell0 h.shape h.frozen0).mono ?_
  rintro e w' ⟨rfl, rfl⟩
  exact ⟨rfl, h.used _, (Below.refl B w).setCell (p := ⟨b, 0, none⟩) h.1 _, (Lib.OthersKept.refl _ _ w).setCell ⟨b, 0, none⟩ rfl _⟩
 ·refine (cc_used b w h.cell0).mono ?_
  rintro e w' ⟨rfl, rfl⟩
  exact ⟨rfl, h, Below.refl B _, Lib.OthersKept.refl _ _ _⟩

set_option maxHeartbeats 2000000 in
set_option maxRecDepth 100000 in
theorem writeString (B b : Nat) (bs : List Value) (s : ByteArray) (w : World) (h : Lib.IsBuilder 213 5 B b bs w) (hlen : bs.length + s.size <= 140737488355328) (hBw : B <= w.heap.size) :
  Calls Tryz.prog 174 #[.pointer (some ⟨b, 0, none⟩), .string s] w fun e w' => e = .returned (.tuple #[.int .i64 s.size, .nilIface]) /\ (Lib.IsBuilder 213 5 B b (bs ++ Lib.strCells s) w' /\ Below B w w' /\ Lib.OthersKept 5 (some b) w w') := by
 obtain ⟨i0, hi, hz0, hz1, hz2⟩ := info_parts Tryz.Builder_Extra_169.infoByte
 go_enter Tryz.func174, Tryz.ntmps174
 go_wp2_with (go_at_call 204; refine (cc_any B b bs _ h).mono ?_)
 rintro e w1 ⟨rfl, h1, hb1, hk1⟩
 obtain ⟨hB, v, hbk, hown, hne⟩ := h1
 have c0 : w1.cell? ⟨b, 0, none⟩ = some (.pointer (some ⟨b, 0, none⟩)) := by rw [Lib.cell_of_heap hbk]; rfl
 have c1 : w1.cell? ⟨b, 1, none⟩ = some v := by rw [Lib.cell_of_heap hbk]; rfl
 go_wp2_with (at_builtin; refine Lib.wpList_append_own_string _ rfl _ _ 22 9 rfl B 5 i0 Tryz.underlying22 Tryz.underlying9 hi hz0 hz1 hz2 _ _ _ rfl hown s rfl ?c3 ?c4 ?c5 ?_)
 case c3 => unfold maxLen; omega
 case c4 => omega
 case c5 => have := hb1.size; omega
 intro v' w2 hown' hgrow _
 have hlt : b < w1.heap.size := by
  rcases Nat.lt_or_ge b w1.heap.size with h' | h'
  ·exact h'
  ·simp [Array.getElem?_eq_none h'] at hbk
 have hb2 : w2.heap[b]? = some (.cells #[.pointer (some ⟨b, 0, none⟩), v] 213 (0, 0)) := by
  rw [hgrow.block b hlt (fun e => hne e.symm)]
  exact hbk
 have d0 : w2.cell? ⟨b, 0, none⟩ = some (.pointer (some ⟨b, 0, none⟩)) := by rw [Lib.cell_of_heap hb2]; rfl
 have d1 : w2.cell? ⟨b, 1, none⟩ = some v := by rw [Lib.cell_of_heap hb2]; rfl
 have f1 : w2.frozen? ⟨b, 1, none⟩ = false := Lib.frozen_of_heap hb2 1
 obtain ⟨ao, n', cap, rfl⟩ : ∃ ao n' cap, v' = .slice ao n' cap := by
  rcases hown'.2 with ⟨hv, _⟩ | ⟨g, cap, cur, hv, _⟩
  ·exact ⟨_, _, _, hv⟩
  ·exact ⟨_, _, _, hv⟩
 go_wp2
 go_ret2
 refine ⟨rfl, ?_, ?_, (hk1.grown hgrow (row_kind hown)).setCell ⟨b, 1, none⟩ rfl _⟩
 ·exact Or.inr (Lib.BuilderAt.put (T := 213) (e := 5) hB hb2 (bs' := bs ++ Lib.strCells s) (by simpa [Lib.strCells_length] using hown') (by decide))
 ·exact (hb1.grown hgrow (by have := hb1.size; omega) (fun k hk => (hown.lt k hk).1)).setCell (p := ⟨b, 1, none⟩) hB _

end Go.Proofs.YtoioiddjbanahaaGreatDoor
