/-  -/
import Derived.Test.YtoioiddjbanahaaGreatDoorM32
import Derived.Deep.QuietTactic
import Derived.BigQuiet
set_option linter.unusedVariables false
set_option linter.unusedSimpArgs false
namespace Go.Proofs.YtoioiddjbanahaaGreatDoor

open Go.RowKit

theorem kid_ahead {ts : List Tk} (h : TreeP ts) {i k : Nat} (hi : i < ts.length) (hp : parI ts i = (k : Int)) : k < i := by
 rcases Nat.eq_zero_or_pos i with h0 | h0
 ·subst h0
  rw [h.2.2.1] at hp
  omega
 ·rcases (h.2.2.2.2 i hi).2.1 with h' | ⟨p, hm, e, _⟩
  ·omega
  ·obtain ⟨j, rfl⟩ : ∃ j, i = j + 1 := ⟨i - 1, by omega⟩
   have := (linked_all j (fun m hm => (h.2.2.2.2 m (by omega)).2.1)).2 p hm
   omega

theorem kidsTo_step {ts : List Tk} {k e : Nat} (h : parI ts e = (k : Int) -> k < e) : kidsTo ts k (e + 1) = kidsTo ts k e ++ (if parI ts e = (k : Int) then [e] else []) := by
 unfold kidsTo
 rw [List.range_succ, List.filter_append]
 congr 1
 by_cases q : parI ts e = (k : Int)
 ·simp [h q, q]
 ·simp [q]

set_option maxRecDepth 8000 in
set_option maxHeartbeats 4000000 in
theorem cKidsOfI (a : Option Addr) (cap : Nat) (ts : List Tk) (x : Int) (w : World) (hR : TkRow w a ts) (hn : ts.length <= 1048576) (hz : TksSz 1048576 ts) :
  Calls Tryz.prog 112 #[.slice a ts.length cap, .int .i64 x] w fun e w' => ∃ v, e = .returned v /\ w'.ownsRow w.heap.size 2 1 v (kidsI ts x).length (intC (kidsI ts x)) /\ Below w.heap.size w w' := by
 have C := hid (cThere a cap ts x w hR hn hz)
 have HR := hid hR
 have HZ := hid hz
 cases q : hasB ts x
 ·have e1 : kidsI ts x = [] := by unfold kidsI; rw [q]; rfl
  rw [e1]
  rw [q] at C
  clear hz hR e1
  generalize ts.length = n at *
  go_enter Tryz.func112, Tryz.ntmps112
  go_wp2_with fail
  refine C.out.mono ?_
  rintro e w1 ⟨rfl, hb1⟩
  have HB1 := hid hb1
  clear hb1
  go_wp2_with fail
  go_ret
  exact ⟨_, rfl, World.ownsRow_nil _ _ _ _, HB1.out⟩
 obtain ⟨hT, k, rfl, hk⟩ := hasB_t q
 have e1 : kidsI ts (k : Int) = kidsN ts k := by unfold kidsI; rw [q]; rfl
 obtain ⟨i0, hi, hz0, hz1, hz2⟩ := info_parts info64
 have HI := hid (And.intro hi (And.intro hz0 (And.intro hz1 hz2)))
 have HAH := hid (fun i (h : i < ts.length) => kid_ahead hT h (k := k))
 rw [e1]
 rw [q] at C
 clear hz hR e1 q hT hi hz0 hz1 hz2
 obtain ⟨V, hV⟩ : ∃ V, kidsN ts k = V := ⟨_, rfl⟩
 have HV := hid hV
 rw [hV]
 clear hV
 obtain ⟨n, hnn⟩ : ∃ n, ts.length = n := ⟨_, rfl⟩
 have HN := hid hnn
 rw [hnn] at hn hk C ⊢
 clear hnn
 go_enter Tryz.func112, Tryz.ntmps112
 go_wp2_with fail
 refine C.out.mono ?_
 rintro e w1 ⟨rfl, hb1⟩
 have HB1 := hid hb1
 clear hb1 C
 go_wp2_with fail
 go_loopw [5, 14] (fun v x wr => ∃ e : Nat, x = .int .i64 (e : Int) /\ e <= n /\ Hid (wr.ownsRow w.heap.size 2 1 v (kidsTo ts k e).length (intC (kidsTo ts k e))) /\ Hid (Below w.heap.size w wr)) (fun _ x _ => n - (intOf x).toNat)
 case atStart => exact ⟨0, rfl, Nat.zero_le _, World.ownsRow_nil _ _ _ _, HB1.out⟩
 case round =>
  clear HB1
  obtain ⟨e, rfl, h2, HO, HB⟩ := hrel
  by_cases hlt : e < n
  case neg =>
   have hee : e = n := by omega
   subst hee
   have HW := hid (show kidsTo ts k e = V by rw [<- HV.out]; unfold kidsN; rw [HN.out])
   have HO2 := HO.out
   rw [HW.out] at HO2
   have HO3 := hid HO2
   clear HO2 HO
   go_wp2_with fail
   go_ret
   exact ⟨_, rfl, HO3.out, HB.out⟩
  have hes : e < ts.length := by rw [HN.out]; exact hlt
  have hin : (e : Int) < (n : Int) := by omega
  have HX := hid (kidsTo_step (ts := ts) (k := k) (HAH.out e hes))
  have HPI := hid (parI_at hes)
  obtain ⟨b, o, aa, ca, rfl, hb, c0, c1, c2, c3, cr⟩ := HR.out.below HB.out e hes
  clear cr
  rw [HPI.out] at HX
  have HOB := hid (HO.out.alloc (.cells #[.int .i64 ts[e].kind, .string ts[e].name, .slice aa ts[e].attrs.length ca, .string ts[e].text] 32))
  have HBB := hid (HB.out.alloc HB.out.size (.cells #[.int .i64 ts[e].kind, .string ts[e].name, .slice aa ts[e].attrs.length ca, .string ts[e].text] 32))
  have hsz := HB.out.size
  have hlen := kidsTo_len ts k e
  by_cases hp : ts[e].kind = (k : Int)
  ·rw [if_pos hp] at HX
   have hd : (ts[e].kind == (k : Int)) = true := by simpa using hp
   clear HPI hp
   generalize ts[e].kind = P at *
   generalize ts[e].name = nm at *
   generalize ts[e].attrs.length = al at *
   generalize ts[e].text = tx at *
   obtain ⟨hi, hz0, hz1, hz2⟩ := HI.out
   have HOA := hid (HOB.out.alloc (.cells #[.int .i64 (e : Int)] 2))
   have hlen2 : (intC (kidsTo ts k e)).length <= e := by rw [intC_len]; exact hlen
   have HL2 := hid hlen2
   obtain ⟨a5, c5, hv5⟩ := own_len HO.out
   clear hlen2
   subst hv5
   obtain ⟨kl, hkl⟩ : ∃ kl, (kidsTo ts k e).length = kl := ⟨_, rfl⟩
   rw [hkl] at hlen HOA HO HOB ⊢
   have HKL := hid hkl
   clear hkl
   go_wp2_with (at_builtin; refine wpList_append_own _ rfl _ _ 131 rfl w.heap.size 2 i0 (.int .i64 0) 1 8 Tryz.underlying131 hi hz0 hz1 hz2 rfl (by decide) _ _ _ rfl HOA.out ⟨wr.heap.size + 1, 0, none⟩ 1 1 [.int .i64 (e : Int)] rfl rfl ?c1 ?c2 ?c3 ?c4 ?c5 ?_)
   case c1 =>
    have := one_cell64 (wr.alloc (.cells #[.int .i64 P, .string nm, .slice aa al ca, .string tx] 32)) (.int .i64 (e : Int))
    rw [show (wr.alloc (.cells #[.int .i64 P, .string nm, .slice aa al ca, .string tx] 32)).heap.size = wr.heap.size + 1 by simp] at this
    exact this
   case c2 => exact one_one64 _
   case c3 => unfold maxLen; omega
   case c4 => omega
   case c5 => simp; omega
   intro v' w2 hown' hgrow _
   have HO2 := hid (show w2.ownsRow w.heap.size 2 1 v' (kidsTo ts k (e + 1)).length (intC (kidsTo ts k (e + 1))) by rw [HX.out, intC_app, List.length_append, HKL.out]; exact hown')
   have HB2 := hid ((HBB.out.alloc (by simp; omega) (.cells #[.int .i64 (e : Int)] 2)).grown hgrow (by simp; omega) (fun g hg => (HOA.out.lt g hg).1))
   clear hown' hgrow
   go_wp2_with fail
   go_roundw
   case rel => exact ⟨e + 1, by go_num, by omega, HO2.out, HB2.out⟩
   case measure => simp [intOf]; omega
  ·rw [if_neg hp, List.append_nil] at HX
   have hd : (ts[e].kind == (k : Int)) = false := by simpa using hp
   clear hp HPI
   generalize ts[e].kind = P at *
   generalize ts[e].name = nm at *
   generalize ts[e].attrs.length = al at *
   generalize ts[e].text = tx at *
   go_wp2_with fail
   go_roundw
   case rel => exact ⟨e + 1, by go_num, by omega, by rw [HX.out]; exact HOB.out, HBB.out⟩
   case measure => simp [intOf]; omega

end Go.Proofs.YtoioiddjbanahaaGreatDoor

namespace Go.Proofs.YtoioiddjbanahaaGreatDoor

open Go.RowKit

def NmRow (w : World) (g : Nat) (l : List ByteArray) : Prop := g < w.heap.size /\ ∀ i (h : i < l.length), w.cell? ⟨g, i, none⟩ = some (.string l[i])

theorem NmRow.below {w w' : World} {g : Nat} {l : List ByteArray} (h : NmRow w g l) (hb : Below w.heap.size w w') : NmRow w' g l :=
 ⟨Nat.lt_of_lt_of_le h.1 hb.size, fun i hi => (hb.cell (p := ⟨g, i, none⟩) h.1).trans (h.2 i hi)⟩

def threeL : List ByteArray := [refS, sumS, signS]

theorem three_row (w : World) : NmRow (w.alloc (.cells #[.string refS, .string sumS, .string signS] 9)) w.heap.size threeL := by
 refine ⟨by rw [World.size_alloc]; exact Nat.lt_succ_self _, ?_⟩
 have h := heap_alloc_new w (.cells #[.string refS, .string sumS, .string signS] 9)
 intro i hi
 have hi' : i < 3 := hi
 have : i = 0 \/ i = 1 \/ i = 2 := by omega
 rcases this with rfl | rfl | rfl <;> (unfold World.cell?; rw [h]; rfl)

noncomputable def hasN (l : List ByteArray) (s : ByteArray) : Bool := open Classical in decide (s ∈ l)

theorem hasN_t {l : List ByteArray} {s : ByteArray} (h : s ∈ l) : hasN l s = true := by unfold hasN; simp [h]

theorem hasN_f {l : List ByteArray} {s : ByteArray} (h : ¬ s ∈ l) : hasN l s = false := by unfold hasN; simp [h]

theorem hasN_just (x : At) : hasN threeL x.name = justN x := by
 rw [Bool.eq_iff_iff, just_is]
 unfold hasN threeL
 simp

set_option maxRecDepth 4000 in
set_option maxHeartbeats 2000000 in
theorem cIndexN (g cap : Nat) (l : List ByteArray) (s : ByteArray) (w : World) (hR : NmRow w g l) (hn : l.length <= 1048576) :
  Calls Tryz.prog 186 #[.slice (some ⟨g, 0, none⟩) l.length cap, .string s] w fun e w' => ∃ r : Int, e = .returned (.int .i64 r) /\ decide (0 <= r) = hasN l s /\ Below w.heap.size w w' := by
 obtain ⟨V, hV⟩ : ∃ V, hasN l s = V := ⟨_, rfl⟩
 have HF : Hid (¬ s ∈ l -> V = false) := fun h => by rw [<- hV]; exact hasN_f h
 have HT : Hid (s ∈ l -> V = true) := fun h => by rw [<- hV]; exact hasN_t h
 rw [hV]
 clear hV
 have HR := hid hR
 clear hR
 obtain ⟨n, hnn⟩ : ∃ n, l.length = n := ⟨_, rfl⟩
 have HN := hid hnn
 rw [hnn] at hn ⊢
 clear hnn
 go_enter Tryz.func186, Tryz.ntmps186
 go_wp2_with fail
 go_loopw [8] (fun k wr => ∃ i : Nat, k = .int .i64 (i : Int) /\ i <= n /\ Hid (¬ s ∈ l.take i) /\ Hid (Below w.heap.size w wr)) (fun k _ => n - (intOf k).toNat)
 case atStart => exact ⟨0, rfl, Nat.zero_le _, by show ¬ _; simp, Below.refl _ _⟩
 case round =>
  obtain ⟨i, rfl, hi, HO, HB⟩ := hrel
  by_cases hlt : i < n
  ·have his : i < l.length := by rw [HN.out]; exact hlt
   have c1 := (HR.out.below HB.out).2 i his
   have hin : (i : Int) < (n : Int) := by omega
   have hin0 : (0 : Int) <= (i : Int) := by omega
   have q1 := str_beq s l[i]
   have HTK := hid (take_snocN his)
   have HYES := hid (show s = l[i] -> V = true from fun e1 => HT.out (by rw [e1]; exact List.getElem_mem his))
   have HNO := hid (show ¬ s = l[i] -> ¬ s ∈ l.take (i + 1) from fun h hm => by
    rw [HTK.out] at hm
    rcases List.mem_append.1 hm with h' | h'
    ·exact HO.out h'
    ·rw [List.mem_singleton] at h'
     exact h h')
   generalize l[i] = m' at *
   by_cases e1 : s = m'
   ·rw [decide_eq_true e1] at q1
    have HV := hid (HYES.out e1)
    clear HNO HYES e1 HTK
    go_wp2_with fail
    go_ret
    exact ⟨_, rfl, by rw [HV.out]; exact decide_eq_true hin0, HB.out⟩
   ·rw [decide_eq_false e1] at q1
    have HN2 := hid (HNO.out e1)
    clear HNO HYES e1 HTK
    go_wp2_with fail
    go_roundw
    case rel => exact ⟨i + 1, by go_num, by omega, HN2.out, HB.out⟩
    case measure => simp [intOf]; omega
  ·have hie : i = n := by omega
   subst hie
   have HV := hid (HF.out (by
    have h := HO.out
    rw [List.take_of_length_le (by rw [HN.out]; exact Nat.le_refl _)] at h
    exact h))
   go_wp2_with fail
   go_ret
   exact ⟨_, rfl, by rw [HV.out]; rfl, HB.out⟩

set_option maxHeartbeats 2000000 in
theorem cContainsN (g cap : Nat) (l : List ByteArray) (s : ByteArray) (w : World) (hR : NmRow w g l) (hn : l.length <= 1048576) :
  Calls Tryz.prog 156 #[.slice (some ⟨g, 0, none⟩) l.length cap, .string s] w fun e w' => e = .returned (.bool (hasN l s)) /\ Below w.heap.size w w' := by
 have C := hid (cIndexN g cap l s w hR hn)
 clear hR
 generalize hasN l s = V at *
 generalize l.length = n at *
 go_enter Tryz.func156, Tryz.ntmps156
 go_wp2_with fail
 refine C.out.mono ?_
 rintro e w1 ⟨r, rfl, hr, hb1⟩
 have HB1 := hid hb1
 clear hb1 C
 go_wp2_with fail
 go_ret
 exact ⟨rfl, HB1.out⟩

def JustTo (l : List At) (n : Nat) : Prop := (ownA l).all justN = true /\ (ownA l).length = n

theorem justTo_nil : JustTo [] 0 := ⟨rfl, rfl⟩

theorem JustTo.skip {l : List At} {y : At} {n : Nat} (h : JustTo l n) (hd : (declF y).isSome = true) : JustTo (l ++ [y]) n := by
 unfold JustTo
 rw [ownA_skip hd]
 exact h

theorem JustTo.more {l : List At} {y : At} {n : Nat} (h : JustTo l n) (hd : declF y = none) (hs : justN y = true) : JustTo (l ++ [y]) (n + 1) := by
 unfold JustTo
 rw [ownA_more hd, List.all_append, List.length_append, h.1, h.2]
 simp [hs]

theorem JustTo.is {l : List At} {n : Nat} (h : JustTo l n) : justL l = decide (n = 3) := by
 unfold justL
 rw [h.1, h.2, Bool.true_and]

theorem justL_bad {l : List At} {y : At} (hm : y ∈ l) (hd : declF y = none) (hs : justN y = false) : justL l = false := by
 unfold justL
 have h : (ownA l).all justN = false := by
  rw [List.all_eq_false]
  exact ⟨y, List.mem_filter.2 ⟨hm, by rw [hd]; rfl⟩, by rw [hs]; decide⟩
 rw [h]
 rfl

set_option maxRecDepth 4000 in
set_option maxHeartbeats 4000000 in
theorem cJustAttrs (a : Option Addr) (cap : Nat) (l : List At) (g : Nat) (w : World) (hR : AtRow w a l) (hz : AtSz 1048576 l) (hn : l.length <= 1048576) (hG : NmRow w g threeL) :
  Calls Tryz.prog 113 #[.slice a l.length cap, .slice (some ⟨g, 0, none⟩) 3 3] w fun e w' => e = .returned (.bool (justL l)) /\ Below w.heap.size w w' := by
 obtain ⟨V, hV⟩ : ∃ V, justL l = V := ⟨_, rfl⟩
 have HV := hid hV
 rw [hV]
 clear hV
 have HR := hid hR
 have HZ := hid hz
 have CC := hid (fun (y : At) wx (hb : Below w.heap.size w wx) => cContainsN g 3 threeL y.name wx (hG.below hb) (by decide))
 have CC' := hid (show ∀ (y : At) (wx : World), Below w.heap.size w wx -> (Calls Tryz.prog 156 #[.slice (some ⟨g, 0, none⟩) 3 3, .string y.name] wx fun e w' => e = .returned (.bool (justN y)) /\ Below wx.heap.size wx w') from fun y wx hb => by rw [<- hasN_just y]; exact CC.out y wx hb)
 clear hR hz hG CC
 obtain ⟨n, hnn⟩ : ∃ n, l.length = n := ⟨_, rfl⟩
 have HN := hid hnn
 rw [hnn] at hn ⊢
 clear hnn
 go_enter Tryz.func113, Tryz.ntmps113
 go_wp2_with fail
 go_loopw [5, 12] (fun v5 v6 wr => ∃ (j m : Nat), v5 = .int .i64 (m : Int) /\ v6 = .int .i64 (j : Int) /\ j <= n /\ m <= j /\ Hid (JustTo (l.take j) m) /\ Hid (Below w.heap.size w wr)) (fun _ v6 _ => n - (intOf v6).toNat)
 case atStart => exact ⟨0, 0, rfl, rfl, Nat.zero_le _, Nat.zero_le _, by rw [List.take_zero]; exact justTo_nil, Below.refl _ _⟩
 case round =>
  obtain ⟨j, m, rfl, rfl, hj, hm, HK, HB⟩ := hrel
  by_cases hjl : j < n
  ·have hjt : j < l.length := by rw [HN.out]; exact hjl
   have hjn : (j : Int) < (n : Int) := by omega
   obtain ⟨b2, o2, rfl, hb2, e1, e2⟩ := (HR.out.below HB.out) j hjt
   have HTS := hid (take_snocN hjt)
   have HSZ := hid (HZ.out _ (List.getElem_mem hjt))
   have HME := hid (List.getElem_mem hjt)
   obtain ⟨y, hy⟩ : ∃ y, l[j] = y := ⟨_, rfl⟩
   rw [hy] at e1 e2 HTS HSZ HME
   have CD := hid (fun wx => cDeclaredBy y wx HSZ.out.1)
   have HBX := hid ((Below.refl wr.heap.size wr).alloc (Nat.le_refl _) (.cells #[.string y.name, .string y.value] 67))
   have HBOX := hid (box_two wr (.string y.name) (.string y.value) 67)
   clear hy
   go_wp2_with fail
   refine (CD.out _).mono ?_
   rintro e w4 ⟨rfl, hb4⟩
   have HB4 := hid (bb HB.out (bb HBX.out hb4))
   have d1 := (hb4.cell (p := ⟨wr.heap.size, 0, none⟩) HBOX.out.2.2).trans HBOX.out.1
   have d2 := (hb4.cell (p := ⟨wr.heap.size, 1, none⟩) HBOX.out.2.2).trans HBOX.out.2.1
   clear hb4 HBX HBOX CD e1 e2 hb2 HB
   cases hd : declF y with
   | some q =>
    have HS := hid (HK.out.skip (show (declF y).isSome = true by rw [hd]; rfl))
    rw [<- HTS.out] at HS
    clear hd d1 d2
    go_wp2_with fail
    go_roundw
    case rel => exact ⟨j + 1, m, rfl, by go_num, by omega, by omega, HS.out, HB4.out⟩
    case measure => simp [intOf]; omega
   | none =>
    have HD := hid hd
    clear hd
    go_wp2_with fail
    refine (CC'.out y _ HB4.out).mono ?_
    rintro e w5 ⟨rfl, hb5⟩
    have HB5 := hid (bb HB4.out hb5)
    clear hb5 d1 d2
    cases hw : justN y with
    | true =>
     have HS := hid (HK.out.more HD.out hw)
     rw [<- HTS.out] at HS
     clear hw
     go_wp2_with fail
     go_roundw
     case rel => exact ⟨j + 1, m + 1, by go_num, by go_num, by omega, by omega, HS.out, HB5.out⟩
     case measure => simp [intOf]; omega
    | false =>
     have HX := hid (HV.out.symm.trans (justL_bad HME.out HD.out hw))
     clear hw
     go_wp2_with fail
     go_ret
     exact ⟨by rw [HX.out]; rfl, HB5.out⟩
  ·have hje : j = n := by omega
   subst hje
   have HX := hid (show V = decide (m = 3) by
    rw [<- HV.out]
    have h := HK.out
    rw [List.take_of_length_le (by rw [HN.out]; exact Nat.le_refl _)] at h
    exact h.is)
   have he : ((m : Int) == 3) = decide (m = 3) := by
    by_cases q : m = 3
    ·subst q; rfl
    ·rw [decide_eq_false q]; simp; omega
   generalize decide (m = 3) = Y at *
   go_wp2_with fail
   go_ret
   exact ⟨by rw [HX.out]; rfl, HB.out⟩

set_option maxHeartbeats 1000000 in
theorem cDigitsOk (b : ByteArray) (w : World) (hb : b.size <= 1048576) :
  Calls Tryz.prog 114 #[.string b] w fun e w' => e = .returned (.bool (tenB b)) /\ w' = w := by
 have C := hid (cNumI b w hb)
 unfold tenB
 generalize (numOf b.data.toList).1 = X at *
 generalize (numOf b.data.toList).2 = Y at *
 go_enter Tryz.func114, Tryz.ntmps114
 go_wp2_with fail
 refine C.out.mono ?_
 rintro e w1 ⟨rfl, rfl⟩
 clear C
 go_wp2_with fail
 go_ret
 exact ⟨rfl, rfl⟩

end Go.Proofs.YtoioiddjbanahaaGreatDoor

namespace Go.Proofs.YtoioiddjbanahaaGreatDoor

open Go.RowKit

def sgnT (l : List At) : ByteArray := (valF l signS).getD ByteArray.empty

def wordsV (r s g : ByteArray) : Value := .agg #[.string r, .string s, .string g]

noncomputable def wordsX (ts : List Tk) (x : Int) : Value := if sealX ts x = true then wordsV (refF (atsJ ts x.toNat)) (sumF (atsJ ts x.toNat)) (sgnT (atsJ ts x.toNat)) else wordsV ⟨#[]⟩ ⟨#[]⟩ ⟨#[]⟩

theorem box3e {w : World} {g : Nat} {x y z : Value} {T : TypeId} (h : w.heap[g]? = some (.cells #[x, y, z] T (0, 0))) : (w.cell? ⟨g, 0, none⟩ = some x /\ w.cell? ⟨g, 1, none⟩ = some y /\ w.cell? ⟨g, 2, none⟩ = some z) /\ (w.frozen? ⟨g, 0, none⟩ = false /\ w.frozen? ⟨g, 1, none⟩ = false /\ w.frozen? ⟨g, 2, none⟩ = false) :=
 ⟨⟨by rw [Lib.cell_of_heap h]; rfl, by rw [Lib.cell_of_heap h]; rfl, by rw [Lib.cell_of_heap h]; rfl⟩, Lib.frozen_of_heap h 0, Lib.frozen_of_heap h 1, Lib.frozen_of_heap h 2⟩

theorem cValAtI {w : World} {a : Option Addr} {ts : List Tk} (hR : TkRow w a ts) (hz : TksSz 1048576 ts) {k : Nat} (hk : k < ts.length) :
  ∃ b o aa na ca, a = some ⟨b, o, none⟩ /\ w.cell? ⟨b, o + k * 4 + 2, none⟩ = some (.slice aa na ca) /\ na = (atsJ ts k).length /\ AtRow w aa (atsJ ts k) := by
 obtain ⟨b, o, aa, ca, e, c2, hA⟩ := ats_row hR hk
 have e2 : atsJ ts k = ts[k].attrs := by unfold atsJ; rw [List.getElem?_eq_getElem hk]
 rw [e2]
 exact ⟨b, o, aa, _, ca, e, c2, rfl, hA⟩

set_option maxRecDepth 8000 in
set_option maxHeartbeats 8000000 in
theorem cSealAt (a : Option Addr) (cap : Nat) (ts : List Tk) (x : Int) (w : World) (hR : TkRow w a ts) (hn : ts.length <= 1048576) (hz : TksSz 1048576 ts) (hT : TreeP ts) :
  Calls Tryz.prog 59 #[.slice a ts.length cap, .int .i64 x] w fun e w' => e = .returned (.tuple #[wordsX ts x, .bool (sealX ts x)]) /\ Below w.heap.size w w' := by
 have HS := hid (sealX_is hT x)
 obtain ⟨w0, hw0⟩ : ∃ w0, w.alloc (.cells #[.string ⟨#[]⟩, .string ⟨#[]⟩, .string ⟨#[]⟩] 53) = w0 := ⟨_, rfl⟩
 have HB0 := hid (show Below w.heap.size w w0 by rw [<- hw0]; exact (Below.refl w.heap.size w).alloc (Nat.le_refl _) _)
 have M0 := hid (show w0.heap[w.heap.size]? = some (.cells #[.string ⟨#[]⟩, .string ⟨#[]⟩, .string ⟨#[]⟩] 53) by rw [<- hw0]; exact heap_alloc_new w _)
 have CK := hid (cKnownI a cap ts x sealS sealM w0 (hR.below HB0.out) hn hz (by decide) (by decide))
 have CC := hid (fun wx (hb : Below w.heap.size w wx) => cKidsOfI a cap ts x wx (hR.below hb) hn hz)
 have HNO := hid (fun (h : sealX ts x = false) => (show wordsX ts x = wordsV ⟨#[]⟩ ⟨#[]⟩ ⟨#[]⟩ by unfold wordsX; rw [h]; rfl))
 cases hK : knownI ts x sealS sealM with
 | false =>
  rw [hK] at HS CK
  have HV := hid (show sealX ts x = false from HS.out)
  rw [HNO.out HV.out, HV.out]
  unfold wordsV
  clear HV HNO HS hR hz hK CC hT
  generalize ts.length = n at *
  go_enter Tryz.func59, Tryz.ntmps59
  go_wp2_with fail
  refine CK.out.mono ?_
  rintro e w1 ⟨rfl, hb1⟩
  have HB1 := hid (bb HB0.out hb1)
  obtain ⟨⟨y0, y1, y2⟩, f0, f1, f2⟩ := box3e (blk_below M0.out hb1)
  clear hb1 CK M0 HB0 hw0
  go_wp2_with fail
  refine bodyPost_ret (v := .tuple #[.agg #[.string ⟨#[]⟩, .string ⟨#[]⟩, .string ⟨#[]⟩], .bool false]) (by simp [results, Tryz.results59, go_sem, y0, y1, y2]) rfl ⟨rfl, ?_⟩
  iterate 3 refine Below.setCell ?_ (show w.heap.size <= w.heap.size from Nat.le_refl _) _
  exact HB1.out
 | true =>
  rw [hK] at HS CK
  obtain ⟨k, rfl, hk⟩ : ∃ k : Nat, x = k /\ k < ts.length := by
   unfold knownI at hK
   rw [Bool.and_eq_true] at hK
   exact (elemB_t hK.1).2
  have hx1 : (k : Int) < (ts.length : Int) := by omega
  obtain ⟨nk, hnk⟩ : ∃ nk, (kidsI ts (k : Int)).length = nk := ⟨_, rfl⟩
  rw [hnk] at HS CC
  by_cases h0 : nk = 0
  case neg =>
   have hd : 0 < nk := by omega
   have HV := hid (show sealX ts (k : Int) = false by rw [HS.out, decide_eq_false h0]; rfl)
   rw [HNO.out HV.out, HV.out]
   unfold wordsV
   clear HV HNO HS hR hz hK hT hnk
   generalize ts.length = n at *
   go_enter Tryz.func59, Tryz.ntmps59
   go_wp2_with fail
   refine CK.out.mono ?_
   rintro e w1 ⟨rfl, hb1⟩
   have HB1 := hid (bb HB0.out hb1)
   have M1 := hid (blk_below M0.out hb1)
   clear hb1 CK M0 HB0 hw0
   go_wp2_with fail
   refine (CC.out _ HB1.out).mono ?_
   rintro e w2 ⟨v, rfl, ho, hb2⟩
   have HB2 := hid (bb HB1.out hb2)
   obtain ⟨⟨y0, y1, y2⟩, f0, f1, f2⟩ := box3e (blk_below M1.out hb2)
   obtain ⟨a6, c6, rfl⟩ : ∃ a c, v = .slice a nk c := by
    rcases ho.2 with ⟨_, h'⟩ | ⟨g', cap', cur, h', _⟩
    ·exact absurd h' h0
    ·exact ⟨_, _, h'⟩
   clear hb2 CC M1 HB1 ho h0
   go_wp2_with fail
   refine bodyPost_ret (v := .tuple #[.agg #[.string ⟨#[]⟩, .string ⟨#[]⟩, .string ⟨#[]⟩], .bool false]) (by simp [results, Tryz.results59, go_sem, y0, y1, y2]) rfl ⟨rfl, ?_⟩
   iterate 3 refine Below.setCell ?_ (show w.heap.size <= w.heap.size from Nat.le_refl _) _
   exact HB2.out
  case pos =>
   subst h0
   have hd : decide ((0 : Int) < ((0 : Nat) : Int)) = false := by decide
   obtain ⟨b, o, aa, na, ca, rfl, -, hna, -⟩ := cValAtI hR hz hk
   have HROW := hid (fun wx (hb : Below w.heap.size w wx) => cValAtI (hR.below hb) hz hk)
   have HZ := hid (ats_sz hz hk)
   have hlen : na <= 1048576 := by
    rw [hna]
    have e2 : atsJ ts k = ts[k].attrs := by unfold atsJ; rw [List.getElem?_eq_getElem hk]
    rw [e2]
    exact (hz _ (List.getElem_mem hk)).2.1
   have HT : Hid (sealX ts (k : Int) = true -> wordsX ts (k : Int) = wordsV (refF (atsJ ts k)) (sumF (atsJ ts k)) (sgnT (atsJ ts k))) := fun h => by unfold wordsX; rw [h]; rfl
   have HSS := hid (show sealX ts (k : Int) = sealJ (atsJ ts k) by rw [HS.out]; rfl)
   have hkn : (k : Int) < (ts.length : Int) := hx1
   clear HS hR hz hK hT hnk
   generalize wordsX ts (k : Int) = WV at *
   generalize sealX ts (k : Int) = SV at *
   generalize ts.length = n at *
   unfold sealJ at HSS
   unfold refF sumF sgnT at HT
   generalize hL : atsJ ts k = L at *
   clear hL
   have CJ := hid (fun (aa : Option Addr) (ca : Nat) (wx : World) (h : AtRow wx aa L) => cJustAttrs aa ca L wx.heap.size (wx.alloc (.cells #[.string ⟨#[82, 101, 102]⟩, .string ⟨#[83, 117, 109]⟩, .string ⟨#[83, 105, 103, 110]⟩] 9)) (h.below ((Below.refl wx.heap.size wx).alloc (Nat.le_refl _) _)) HZ.out (by rw [<- hna]; exact hlen) (three_row wx))
   have CV := hid (fun (aa : Option Addr) (ca : Nat) (s : ByteArray) (hs : s.size <= 1048576) (wx : World) (h : AtRow wx aa L) => cValueInI aa ca L s wx h HZ.out (by rw [<- hna]; exact hlen) hs)
   have HZR := hid (val_sz HZ.out refS)
   have HZS := hid (val_sz HZ.out sumS)
   have HZG := hid (val_sz HZ.out signS)
   have CDS := hid (fun wx => cDigitsOk ((valF L sumS).getD ByteArray.empty) wx HZS.out)
   have CDG := hid (fun wx => cDigitsOk ((valF L signS).getD ByteArray.empty) wx HZG.out)
   have CVR := hid (fun aa ca wx h => CV.out aa ca refS (by decide) wx h)
   have CVS := hid (fun aa ca wx h => CV.out aa ca sumS (by decide) wx h)
   have CVG := hid (fun aa ca wx h => CV.out aa ca signS (by decide) wx h)
   clear HZR HZS HZG CV HZ hlen hna
   generalize (valF L refS).getD ByteArray.empty = R at *
   generalize (valF L refS).isSome = R1 at *
   generalize (valF L sumS).getD ByteArray.empty = S at *
   generalize (valF L sumS).isSome = S1 at *
   generalize (valF L signS).getD ByteArray.empty = G at *
   generalize (valF L signS).isSome = G1 at *
   cases hJ : justL L with
   | false =>
    rw [hJ] at HSS CJ
    have HV := hid (show SV = false from HSS.out)
    rw [HNO.out HV.out, HV.out]
    unfold wordsV
    clear HV HNO HSS HT hJ CVR CVS CVG CDS CDG
    go_enter Tryz.func59, Tryz.ntmps59
    go_wp2_with fail
    refine CK.out.mono ?_
    rintro e w1 ⟨rfl, hb1⟩
    have HB1 := hid (bb HB0.out hb1)
    have M1 := hid (blk_below M0.out hb1)
    clear hb1 CK M0 HB0 hw0
    go_wp2_with fail
    refine (CC.out _ HB1.out).mono ?_
    rintro e w2 ⟨v, rfl, ho, hb2⟩
    have HB2 := hid (bb HB1.out hb2)
    have M2 := hid (blk_below M1.out hb2)
    obtain ⟨a6, c6, rfl⟩ : ∃ a c, v = .slice a 0 c := by
     rcases ho.2 with ⟨h', _⟩ | ⟨g', cap', cur, h', _⟩
     ·exact ⟨_, _, h'⟩
     ·exact ⟨_, _, h'⟩
    obtain ⟨b', o', aa2, na2, ca2, e', c2, hna2, hA2⟩ := HROW.out _ HB2.out
    obtain ⟨rfl, rfl⟩ : b = b' /\ o = o' := by cases e'; exact ⟨rfl, rfl⟩
    subst hna2
    have CJ2 := hid (CJ.out aa2 ca2 w2 hA2)
    have HBX := hid ((Below.refl w2.heap.size w2).alloc (Nat.le_refl _) (.cells #[.string ⟨#[82, 101, 102]⟩, .string ⟨#[83, 117, 109]⟩, .string ⟨#[83, 105, 103, 110]⟩] 9))
    clear hb2 CC M1 HB1 ho e' hA2 CJ
    go_wp2_with fail
    refine CJ2.out.mono ?_
    rintro e w3 ⟨rfl, hb3⟩
    have HB3 := hid (bb HB2.out (bb HBX.out hb3))
    obtain ⟨⟨y0, y1, y2⟩, f0, f1, f2⟩ := box3e (blk_below (blk_below M2.out HBX.out) hb3)
    clear CJ2 hb3 HBX M2 HB2 c2
    go_wp2_with fail
    refine bodyPost_ret (v := .tuple #[.agg #[.string ⟨#[]⟩, .string ⟨#[]⟩, .string ⟨#[]⟩], .bool false]) (by simp [results, Tryz.results59, go_sem, y0, y1, y2]) rfl ⟨rfl, ?_⟩
    iterate 3 refine Below.setCell ?_ (show w.heap.size <= w.heap.size from Nat.le_refl _) _
    exact HB3.out
   | true =>
    rw [hJ] at HSS CJ
    have HSV := hid (show SV = (tenB S && tenB G) from HSS.out)
    clear HSS hJ
    go_enter Tryz.func59, Tryz.ntmps59
    go_wp2_with fail
    refine CK.out.mono ?_
    rintro e w1 ⟨rfl, hb1⟩
    have HB1 := hid (bb HB0.out hb1)
    have M1 := hid (blk_below M0.out hb1)
    clear hb1 CK M0 HB0 hw0
    go_wp2_with fail
    refine (CC.out _ HB1.out).mono ?_
    rintro e w2 ⟨v, rfl, ho, hb2⟩
    have HB2 := hid (bb HB1.out hb2)
    have M2 := hid (blk_below M1.out hb2)
    obtain ⟨a6, c6, rfl⟩ : ∃ a c, v = .slice a 0 c := by
     rcases ho.2 with ⟨h', _⟩ | ⟨g', cap', cur, h', _⟩
     ·exact ⟨_, _, h'⟩
     ·exact ⟨_, _, h'⟩
    obtain ⟨b', o', aa2, na2, ca2, e', c2, hna2, hA2⟩ := HROW.out _ HB2.out
    obtain ⟨rfl, rfl⟩ : b = b' /\ o = o' := by cases e'; exact ⟨rfl, rfl⟩
    subst hna2
    have CJ2 := hid (CJ.out aa2 ca2 w2 hA2)
    have HBX := hid ((Below.refl w2.heap.size w2).alloc (Nat.le_refl _) (.cells #[.string ⟨#[82, 101, 102]⟩, .string ⟨#[83, 117, 109]⟩, .string ⟨#[83, 105, 103, 110]⟩] 9))
    clear hb2 CC M1 HB1 ho e' hA2 CJ
    go_wp2_with fail
    refine CJ2.out.mono ?_
    rintro e w3 ⟨rfl, hb3⟩
    have HB3 := hid (bb HB2.out (bb HBX.out hb3))
    have M3 := hid (blk_below (blk_below M2.out HBX.out) hb3)
    clear CJ2 hb3 HBX M2 HB2 c2
    obtain ⟨b', o', aa3, na3, ca3, e', c3, hna3, hA3⟩ := HROW.out _ HB3.out
    obtain ⟨rfl, rfl⟩ : b = b' /\ o = o' := by cases e'; exact ⟨rfl, rfl⟩
    subst hna3
    have C3 := hid (CVR.out aa3 ca3 w3 hA3)
    clear e' hA3 CVR
    go_wp2_with fail
    refine C3.out.mono ?_
    rintro e w4 ⟨rfl, hb4⟩
    have HB4 := hid (bb HB3.out hb4)
    have M4 := hid (blk_below M3.out hb4)
    clear C3 hb4 M3 HB3 c3
    obtain ⟨b', o', aa4, na4, ca4, e', c4, hna4, hA4⟩ := HROW.out _ HB4.out
    obtain ⟨rfl, rfl⟩ : b = b' /\ o = o' := by cases e'; exact ⟨rfl, rfl⟩
    subst hna4
    have C4 := hid (CVS.out aa4 ca4 w4 hA4)
    clear e' hA4 CVS
    go_wp2_with fail
    refine C4.out.mono ?_
    rintro e w5 ⟨rfl, hb5⟩
    have HB5 := hid (bb HB4.out hb5)
    have M5 := hid (blk_below M4.out hb5)
    clear C4 hb5 M4 HB4 c4
    obtain ⟨b', o', aa5, na5, ca5, e', c5, hna5, hA5⟩ := HROW.out _ HB5.out
    obtain ⟨rfl, rfl⟩ : b = b' /\ o = o' := by cases e'; exact ⟨rfl, rfl⟩
    subst hna5
    have C5 := hid (CVG.out aa5 ca5 w5 hA5)
    clear e' hA5 CVG
    go_wp2_with fail
    refine C5.out.mono ?_
    rintro e w6 ⟨rfl, hb6⟩
    have HB6 := hid (bb HB5.out hb6)
    obtain ⟨⟨y0, y1, y2⟩, f0, f1, f2⟩ := box3e (blk_below M5.out hb6)
    clear C5 hb6 M5 HB5 c5 HROW
    go_wp2_with fail
    refine (CDS.out _).mono ?_
    rintro e w7 ⟨rfl, rfl⟩
    clear CDS
    cases h1 : tenB S with
    | false =>
     have HV := hid (show SV = false by rw [HSV.out, h1]; rfl)
     have HE := hid (show (.tuple #[WV, .bool SV] : Value) = .tuple #[.agg #[.string ⟨#[]⟩, .string ⟨#[]⟩, .string ⟨#[]⟩], .bool false] by rw [HNO.out HV.out, HV.out]; rfl)
     clear HV HNO HT HSV h1
     go_wp2_with fail
     refine bodyPost_ret (v := .tuple #[.agg #[.string ⟨#[]⟩, .string ⟨#[]⟩, .string ⟨#[]⟩], .bool false]) (by simp [results, Tryz.results59, go_sem, y0, y1, y2]) rfl ⟨by rw [HE.out], ?_⟩
     iterate 3 refine Below.setCell ?_ (show w.heap.size <= w.heap.size from Nat.le_refl _) _
     exact HB6.out
    | true =>
     go_wp2_with fail
     refine (CDG.out _).mono ?_
     rintro e w8 ⟨rfl, rfl⟩
     clear CDG
     cases h2 : tenB G with
     | false =>
      have HV := hid (show SV = false by rw [HSV.out, h1, h2]; rfl)
      have HE := hid (show (.tuple #[WV, .bool SV] : Value) = .tuple #[.agg #[.string ⟨#[]⟩, .string ⟨#[]⟩, .string ⟨#[]⟩], .bool false] by rw [HNO.out HV.out, HV.out]; rfl)
      clear HV HNO HT HSV h1 h2
      go_wp2_with fail
      refine bodyPost_ret (v := .tuple #[.agg #[.string ⟨#[]⟩, .string ⟨#[]⟩, .string ⟨#[]⟩], .bool false]) (by simp [results, Tryz.results59, go_sem, y0, y1, y2]) rfl ⟨by rw [HE.out], ?_⟩
      iterate 3 refine Below.setCell ?_ (show w.heap.size <= w.heap.size from Nat.le_refl _) _
      exact HB6.out
     | true =>
      have HV := hid (show SV = true by rw [HSV.out, h1, h2]; rfl)
      have HE := hid (show (.tuple #[WV, .bool SV] : Value) = .tuple #[.agg #[.string R, .string S, .string G], .bool true] by rw [HT.out HV.out, HV.out]; rfl)
      clear HV HNO HT HSV h1 h2
      go_wp2_with fail
      refine bodyPost_ret (v := .tuple #[.agg #[.string R, .string S, .string G], .bool true]) (by simp [results, Tryz.results59, go_sem, y0, y1, y2]) rfl ⟨by rw [HE.out], ?_⟩
      iterate 3 refine Below.setCell ?_ (show w.heap.size <= w.heap.size from Nat.le_refl _) _
      exact HB6.out

end Go.Proofs.YtoioiddjbanahaaGreatDoor

namespace Go.Proofs.YtoioiddjbanahaaGreatDoor

open Go.RowKit

theorem sp_inj : ∀ (a b c d : List UInt8), (∀ x ∈ a, ¬ x = 32) -> (∀ x ∈ c, ¬ x = 32) -> a ++ 32 :: b = c ++ 32 :: d -> a = c /\ b = d
 | [], b, [], d, _, _, h => ⟨rfl, by simpa using h⟩
 | [], b, y :: c, d, _, hc, h => by
  simp only [List.nil_append, List.cons_append, List.cons.injEq] at h
  exact absurd h.1.symm (hc y (List.mem_cons_self ..))
 | x :: a, b, [], d, ha, _, h => by
  simp only [List.nil_append, List.cons_append, List.cons.injEq] at h
  exact absurd h.1 (ha x (List.mem_cons_self ..))
 | x :: a, b, y :: c, d, ha, hc, h => by
  simp only [List.cons_append, List.cons.injEq] at h
  obtain ⟨e1, e2⟩ := sp_inj a b c d (fun z hz => ha z (List.mem_cons_of_mem _ hz)) (fun z hz => hc z (List.mem_cons_of_mem _ hz)) h.2
  exact ⟨by rw [h.1, e1], e2⟩

def NoSp (s : ByteArray) : Prop := ∀ x ∈ s.data.toList, ¬ x = 32

theorem key_inj {a b c d : ByteArray} (ha : NoSp a) (hc : NoSp c) (h : (a ++ ⟨#[32]⟩) ++ b = (c ++ ⟨#[32]⟩) ++ d) : a = c /\ b = d := by
 have h2 : a.data.toList ++ 32 :: b.data.toList = c.data.toList ++ 32 :: d.data.toList := by
  have h3 := congrArg (fun s : ByteArray => s.data.toList) h
  simpa using h3
 obtain ⟨e1, e2⟩ := sp_inj _ _ _ _ ha hc h2
 refine ⟨?_, ?_⟩
 ·apply ByteArray.ext
  exact Array.toList_inj.1 e1
 ·apply ByteArray.ext
  exact Array.toList_inj.1 e2

theorem of_nosp {s : ByteArray} (h : ofB sgnS 20 s = true) : NoSp s := by
 intro x hx e
 subst e
 unfold ofB at h
 rw [Bool.and_eq_true] at h
 have h2 := List.all_eq_true.1 h.1 _ hx
 revert h2
 decide

theorem look_nosp {l : List At} (hl : l.all rightB = true) (p : ByteArray) : NoSp ((lookL l p).getD ⟨#[]⟩) := by
 unfold lookL
 cases hf : l.find? (declB p) with
 | none =>
  simp only
  split
  ·intro x hx; cases hx
  ·intro x hx; cases hx
 | some y =>
  simp only [Option.getD_some]
  have h1 := List.all_eq_true.1 hl y (List.mem_of_find?_eq_some hf)
  have h2 := List.find?_some hf
  unfold declB at h2
  have h3 : declF y = some p := by simpa using h2
  unfold rightB at h1
  rw [h3] at h1
  simp only [Bool.and_eq_true] at h1
  exact of_nosp h1.1

noncomputable def pairN (ts : List Tk) (i : Nat) (x : At) : ByteArray × ByteArray := ((meanF ts i (preS x.name)).getD ⟨#[]⟩, locS x.name)

noncomputable def pairsN (ts : List Tk) (i : Nat) (l : List At) : List (ByteArray × ByteArray) := (l.filter cntB).map (pairN ts i)

theorem meanF_look {ts : List Tk} {i : Nat} (h : (outAts ts i).all rightB = true) (p : ByteArray) : meanF ts i p = lookL (outAts ts i) p := by
 rw [meanF_out]
 exact meanL_look p h

theorem pair_mem {ts : List Tk} {i : Nat} (h : (outAts ts i).all rightB = true) (l : List At) (x : At) : keyN ts i x ∈ keysN ts i l ↔ pairN ts i x ∈ pairsN ts i l := by
 unfold keysN pairsN
 rw [List.mem_map, List.mem_map]
 refine exists_congr fun y => and_congr_right fun _ => ?_
 unfold keyN pairN
 have n1 : NoSp ((meanF ts i (preS y.name)).getD ⟨#[]⟩) := by rw [meanF_look h]; exact look_nosp h _
 have n2 : NoSp ((meanF ts i (preS x.name)).getD ⟨#[]⟩) := by rw [meanF_look h]; exact look_nosp h _
 constructor
 ·intro e
  obtain ⟨e1, e2⟩ := key_inj n1 n2 e
  rw [e1, e2]
 ·intro e
  have e1 := congrArg Prod.fst e
  have e2 := congrArg Prod.snd e
  simp only at e1 e2
  rw [e1, e2]

theorem pairsN_skip {ts : List Tk} {i : Nat} {l : List At} {x : At} (hc : cntB x = false) : pairsN ts i (l ++ [x]) = pairsN ts i l := by
 unfold pairsN
 rw [List.filter_append]
 simp [hc]

theorem pairsN_more {ts : List Tk} {i : Nat} {l : List At} {x : At} (hc : cntB x = true) : pairsN ts i (l ++ [x]) = pairsN ts i l ++ [pairN ts i x] := by
 unfold pairsN
 rw [List.filter_append]
 simp [hc]

theorem cntB_is (x : At) : cntB x = (!decide ((preS x.name).size = 0) && !decide (preS x.name = nsS)) := by
 have h0 : preS nsS = ⟨#[]⟩ := by decide +kernel
 unfold cntB declF
 by_cases h1 : x.name = nsS
 ·rw [if_pos h1, h1, h0]
  rfl
 ·rw [if_neg h1]
  by_cases h2 : preS x.name = nsS
  ·rw [if_pos h2, decide_eq_true h2]
   simp
  ·rw [if_neg h2, decide_eq_false h2]
   simp

def prC (ps : List (ByteArray × ByteArray)) : List Value := ps.flatMap fun q => [.string q.1, .string q.2]

theorem prC_snoc (ps : List (ByteArray × ByteArray)) (q : ByteArray × ByteArray) : prC (ps ++ [q]) = prC ps ++ [.string q.1, .string q.2] := by
 unfold prC
 rw [List.flatMap_append]
 simp

theorem prC_get : ∀ (ps : List (ByteArray × ByteArray)) (j : Nat) (h : j < ps.length), (prC ps)[j * 2]? = some (.string ps[j].1) /\ (prC ps)[j * 2 + 1]? = some (.string ps[j].2)
 | [], j, h => by simp at h
 | x :: ps, 0, h => ⟨rfl, rfl⟩
 | x :: ps, j + 1, h => by
  have := prC_get ps j (by simpa using h)
  rw [show (j + 1) * 2 = j * 2 + 1 + 1 by omega]
  exact this

def PrRow (w : World) (a : Option Addr) (ps : List (ByteArray × ByteArray)) : Prop := ∀ j (h : j < ps.length), ∃ g, a = some ⟨g, 0, none⟩ /\ g < w.heap.size /\ w.cell? ⟨g, j * 2, none⟩ = some (.string ps[j].1) /\ w.cell? ⟨g, j * 2 + 1, none⟩ = some (.string ps[j].2)

theorem PrRow.below {w w' : World} {a : Option Addr} {ps : List (ByteArray × ByteArray)} (h : PrRow w a ps) (hb : Below w.heap.size w w') : PrRow w' a ps := by
 intro j hj
 obtain ⟨g, e, hg, c1, c2⟩ := h j hj
 exact ⟨g, e, Nat.lt_of_lt_of_le hg hb.size, (hb.cell (p := ⟨g, j * 2, none⟩) hg).trans c1, (hb.cell (p := ⟨g, j * 2 + 1, none⟩) hg).trans c2⟩

theorem PrRow.of {w : World} {B : Nat} {a : Option Addr} {c : Nat} {ps : List (ByteArray × ByteArray)} (h : w.ownsRow B 193 2 (.slice a ps.length c) ps.length (prC ps)) : PrRow w a ps := by
 intro j hj
 rcases h.2 with ⟨_, h0⟩ | ⟨g, cap, cur, e, hg, hh, h3⟩
 ·omega
 ·cases e
  obtain ⟨p1, p2⟩ := prC_get ps j hj
  exact ⟨g, rfl, lt_of_heap hh, by rw [World.ownsRow.cellAt h (j * 2) (by omega)]; exact p1, by rw [World.ownsRow.cellAt h (j * 2 + 1) (by omega)]; exact p2⟩

theorem prs_more {w1 : World} {B : Nat} {v : Value} {ps : List (ByteArray × ByteArray)} {q : ByteArray × ByteArray} (h : w1.ownsRow B 193 2 v (ps.length + 1) (prC ps ++ [.string q.1, .string q.2])) : ∃ a c, v = .slice a (ps ++ [q]).length c /\ w1.ownsRow B 193 2 (.slice a (ps ++ [q]).length c) (ps ++ [q]).length (prC (ps ++ [q])) := by
 have e : (ps ++ [q]).length = ps.length + 1 := by rw [List.length_append]; rfl
 rw [e, prC_snoc]
 rcases h.2 with ⟨rfl, h0⟩ | ⟨g, cap, cur, rfl, h3⟩
 ·omega
 ·exact ⟨_, _, rfl, h⟩

noncomputable def hasP (ps : List (ByteArray × ByteArray)) (q : ByteArray × ByteArray) : Bool := open Classical in decide (q ∈ ps)

theorem hasP_t {ps : List (ByteArray × ByteArray)} {q : ByteArray × ByteArray} (h : q ∈ ps) : hasP ps q = true := by unfold hasP; simp [h]

theorem hasP_f {ps : List (ByteArray × ByteArray)} {q : ByteArray × ByteArray} (h : ¬ q ∈ ps) : hasP ps q = false := by unfold hasP; simp [h]

set_option maxRecDepth 4000 in
set_option maxHeartbeats 2000000 in
theorem cIndexP (a : Option Addr) (cap : Nat) (ps : List (ByteArray × ByteArray)) (m l : ByteArray) (w : World) (hR : PrRow w a ps) (hn : ps.length <= 1048576) :
  Calls Tryz.prog 185 #[.slice a ps.length cap, .agg #[.string m, .string l]] w fun e w' => ∃ r : Int, e = .returned (.int .i64 r) /\ decide (0 <= r) = hasP ps (m, l) /\ Below w.heap.size w w' := by
 obtain ⟨V, hV⟩ : ∃ V, hasP ps (m, l) = V := ⟨_, rfl⟩
 have HF : Hid (¬ (m, l) ∈ ps -> V = false) := fun h => by rw [<- hV]; exact hasP_f h
 have HT : Hid ((m, l) ∈ ps -> V = true) := fun h => by rw [<- hV]; exact hasP_t h
 rw [hV]
 clear hV
 have HR := hid hR
 have HB0 := hid ((Below.refl w.heap.size w).alloc (Nat.le_refl _) (.cells #[.string m, .string l] 193))
 have HX := hid (box_two w (.string m) (.string l) 193)
 clear hR
 obtain ⟨n, hnn⟩ : ∃ n, ps.length = n := ⟨_, rfl⟩
 have HN := hid hnn
 rw [hnn] at hn ⊢
 clear hnn
 go_enter Tryz.func185, Tryz.ntmps185
 go_wp2_with fail
 go_loopw [8] (fun k wr => ∃ i : Nat, k = .int .i64 (i : Int) /\ i <= n /\ Hid (¬ (m, l) ∈ ps.take i) /\ Hid (Below (w.heap.size + 1) (w.alloc (.cells #[.string m, .string l] 193)) wr)) (fun k _ => n - (intOf k).toNat)
 case atStart => exact ⟨0, rfl, Nat.zero_le _, by show ¬ _; simp, Below.refl _ _⟩
 case round =>
  obtain ⟨i, rfl, hi, HO, HB⟩ := hrel
  have k1 := (HB.out.cell (p := ⟨w.heap.size, 0, none⟩) (Nat.lt_succ_self _)).trans HX.out.1
  have k2 := (HB.out.cell (p := ⟨w.heap.size, 1, none⟩) (Nat.lt_succ_self _)).trans HX.out.2.1
  have HBw := hid (HB0.out.trans (HB.out.mono (Nat.le_succ _)))
  by_cases hlt : i < n
  ·have his : i < ps.length := by rw [HN.out]; exact hlt
   obtain ⟨g, rfl, hg, c1, c2⟩ := (HR.out.below HBw.out) i his
   have hin : (i : Int) < (n : Int) := by omega
   have hin0 : (0 : Int) <= (i : Int) := by omega
   have q1 := str_beq m ps[i].1
   have q2 := str_beq l ps[i].2
   have HTK := hid (take_snocN his)
   have HYES := hid (show m = ps[i].1 -> l = ps[i].2 -> V = true from fun e1 e2 => HT.out (by rw [e1, e2]; exact List.getElem_mem his))
   have HNO := hid (show ¬ (m = ps[i].1 /\ l = ps[i].2) -> ¬ (m, l) ∈ ps.take (i + 1) from fun h hm => by
    rw [HTK.out] at hm
    rcases List.mem_append.1 hm with h' | h'
    ·exact HO.out h'
    ·rw [List.mem_singleton] at h'
     exact h ⟨congrArg Prod.fst h', congrArg Prod.snd h'⟩)
   generalize ps[i].1 = m' at *
   generalize ps[i].2 = l' at *
   by_cases e1 : m = m'
   ·rw [decide_eq_true e1] at q1
    by_cases e2 : l = l'
    ·rw [decide_eq_true e2] at q2
     have HV := hid (HYES.out e1 e2)
     clear HNO HYES e1 e2
     go_wp2_with fail
     go_quiet (fail)
     go_wp2_with fail
     go_ret
     exact ⟨_, rfl, by rw [HV.out]; exact decide_eq_true hin0, below_drewN HBw.out _⟩
    ·rw [decide_eq_false e2] at q2
     have HN2 := hid (HNO.out (fun h => e2 h.2))
     clear HNO HYES e1 e2
     go_wp2_with fail
     go_quiet (fail)
     go_wp2_with fail
     go_roundw
     case rel => exact ⟨i + 1, by go_num, by omega, HN2.out, below_drewN HB.out _⟩
     case measure => simp [intOf]; omega
   ·rw [decide_eq_false e1] at q1
    have HN2 := hid (HNO.out (fun h => e1 h.1))
    clear HNO HYES e1 q2
    go_wp2_with fail
    go_quiet (fail)
    go_wp2_with fail
    go_roundw
    case rel => exact ⟨i + 1, by go_num, by omega, HN2.out, below_drewN HB.out _⟩
    case measure => simp [intOf]; omega
  ·have hie : i = n := by omega
   subst hie
   have HV := hid (HF.out (by
    have h := HO.out
    rw [List.take_of_length_le (by rw [HN.out]; exact Nat.le_refl _)] at h
    exact h))
   go_wp2_with fail
   go_ret
   exact ⟨_, rfl, by rw [HV.out]; rfl, HBw.out⟩

set_option maxHeartbeats 2000000 in
theorem cContainsP (a : Option Addr) (cap : Nat) (ps : List (ByteArray × ByteArray)) (m l : ByteArray) (w : World) (hR : PrRow w a ps) (hn : ps.length <= 1048576) :
  Calls Tryz.prog 150 #[.slice a ps.length cap, .agg #[.string m, .string l]] w fun e w' => e = .returned (.bool (hasP ps (m, l))) /\ Below w.heap.size w w' := by
 have HB0 := hid ((Below.refl w.heap.size w).alloc (Nat.le_refl _) (.cells #[.string m, .string l] 193))
 have C := hid (cIndexP a cap ps m l (w.alloc (.cells #[.string m, .string l] 193)) (hR.below HB0.out) hn)
 clear hR
 generalize hasP ps (m, l) = V at *
 generalize ps.length = n at *
 go_enter Tryz.func150, Tryz.ntmps150
 go_wp2_with fail
 refine C.out.mono ?_
 rintro e w1 ⟨r, rfl, hr, hb1⟩
 have HB1 := hid (bb HB0.out hb1)
 clear hb1 C
 go_wp2_with fail
 go_ret
 exact ⟨rfl, HB1.out⟩

end Go.Proofs.YtoioiddjbanahaaGreatDoor
