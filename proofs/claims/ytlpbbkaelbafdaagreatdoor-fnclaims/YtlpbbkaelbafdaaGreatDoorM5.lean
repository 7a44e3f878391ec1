/-  -/
import Derived.Test.YtlpbbkaelbafdaaGreatDoorRows
import Derived.Test.YtlpbbkaelbafdaaGreatDoorM4
import Derived.Test.YtlpbbkaelbafdaaGreatDoorM2
import Derived.Test.YtlpbbkaelbafdaaGreatDoorM3
import Derived.WalkKit
set_option linter.unusedVariables false
set_option linter.unusedSimpArgs false
namespace Go.Proofs.YtlpbbkaelbafdaaGreatDoor
open Go.RowKit

theorem ret_boolE {a b : Bool} (h : a = b) : Ending.returned (.bool a) = .returned (.bool b) := by rw [h]

theorem c_spec_l1Plain (c : Int) (w : World) (h0 : 0 <= c) (h1 : c <= 255) :
  Calls Tryz.prog 103 #[.int .u8 c] w fun e w' => e = .returned (.bool (plainB c)) /\ w' = w := by
 go_enter Tryz.func103, Tryz.ntmps103
 go_wp2
 all_goals go_ret
 all_goals exact ⟨ret_boolE (by rw [Bool.eq_iff_iff]; simp [plainB]; omega), rfl⟩

theorem c__impl_sign__plain (c : Int) (w : World) (h0 : 0 <= c) (h1 : c <= 255) :
  Calls Tryz.prog 161 #[.int .u8 c] w fun e w' => e = .returned (.bool (plainB c)) /\ w' = w := by
 go_enter Tryz.func161, Tryz.ntmps161
 go_wp2
 all_goals go_ret
 all_goals exact ⟨ret_boolE (by rw [Bool.eq_iff_iff]; simp [plainB]; try omega), rfl⟩

theorem c_spec_PlainOk (s : ByteArray) (w : World) (hs : s.size <= maxLen) :
  Calls Tryz.prog 49 #[.string s] w fun e w' => e = .returned (.bool (plainL s.data.toList)) /\ w' = w := by
 unfold maxLen at hs
 go_enter Tryz.func49, Tryz.ntmps49
 go_wp2
 go_loop [3] (fun i => ∃ k : Nat, k <= s.size /\ i = .int .i64 k /\ plainL (s.data.toList.take k) = true) (fun i => s.size - (intOf i).toNat)
 case atStart => exact ⟨0, Nat.zero_le _, rfl, rfl⟩
 case round =>
  obtain ⟨k, hk, rfl, hp⟩ := hrel
  by_cases hlt : k < s.size
  ·have HP : Hid (plainL (s.data.toList.take k) = true) := hp
   clear hp
   have hb : (s[k].toNat : Int) <= 255 := by have := s[k].toNat_lt; omega
   cases hc : plainB s[k].toNat
   ·go_wp2_with (go_at_call 103; refine (c_spec_l1Plain _ _ (by omega) hb).mono ?_; rintro e w' ⟨rfl, rfl⟩)
    go_ret
    exact ⟨ret_boolE (plainL_no s k hlt hc).symm, rfl⟩
   ·go_wp2_with (go_at_call 103; refine (c_spec_l1Plain _ _ (by omega) hb).mono ?_; rintro e w' ⟨rfl, rfl⟩)
    go_round
    case rel => exact ⟨k + 1, by omega, by go_num, by rw [take_snocE s k hlt, plainL_snoc, HP.out, hc]; rfl⟩
    case measure => simp [intOf]; omega
  ·go_wp2
   go_ret
   exact ⟨ret_boolE (by rw [<- plainL_full s k hlt]; exact hp.symm), rfl⟩

theorem c_impl_allSignsE (s : ByteArray) (w : World) (hs : s.size <= maxLen) :
  Calls Tryz.prog 97 #[.string s, .func (.func 161) #[] #[]] w fun e w' => e = .returned (.bool (plainL s.data.toList)) /\ w' = w := by
 unfold maxLen at hs
 go_enter Tryz.func97, Tryz.ntmps97
 go_wp2
 go_loop [8] (fun i => ∃ k : Nat, k <= s.size /\ i = .int .i64 k /\ plainL (s.data.toList.take k) = true) (fun i => s.size - (intOf i).toNat)
 case atStart => exact ⟨0, Nat.zero_le _, rfl, rfl⟩
 case round =>
  obtain ⟨k, hk, rfl, hp⟩ := hrel
  by_cases hlt : k < s.size
  ·have HP : Hid (plainL (s.data.toList.take k) = true) := hp
   clear hp
   have hb : (s[k].toNat : Int) <= 255 := by have := s[k].toNat_lt; omega
   cases hc : plainB s[k].toNat
   ·go_wp2_with (go_at_call 161; refine (c__impl_sign__plain _ _ (by omega) hb).mono ?_; rintro e w' ⟨rfl, rfl⟩)
    go_ret
    exact ⟨ret_boolE (plainL_no s k hlt hc).symm, rfl⟩
   ·go_wp2_with (go_at_call 161; refine (c__impl_sign__plain _ _ (by omega) hb).mono ?_; rintro e w' ⟨rfl, rfl⟩)
    go_round
    case rel => exact ⟨k + 1, by omega, by go_num, by rw [take_snocE s k hlt, plainL_snoc, HP.out, hc]; rfl⟩
    case measure => simp [intOf]; omega
  ·go_wp2
   go_ret
   exact ⟨ret_boolE (by rw [<- plainL_full s k hlt]; exact hp.symm), rfl⟩

theorem c_impl_PlainOk (s : ByteArray) (w : World) (hs : s.size <= maxLen) :
  Calls Tryz.prog 138 #[.string s] w fun e w' => e = .returned (.bool (plainL s.data.toList)) /\ w' = w := by
 go_enter Tryz.func138, Tryz.ntmps138
 go_wp2_with (go_at_call 97; refine (c_impl_allSignsE _ _ hs).mono ?_; rintro e w' ⟨rfl, rfl⟩)
 go_ret
 exact ⟨rfl, rfl⟩

end Go.Proofs.YtlpbbkaelbafdaaGreatDoor

namespace Go.Proofs.YtlpbbkaelbafdaaGreatDoor
open Go.RowKit

def atOk (x : At) : Prop := nameL x.name.data.toList = true /\ plainL x.value.data.toList = true /\ x.value.size <= 60

def AtsOk (n : Nat) (l : List At) : Prop := (∀ j (h : j < l.length), j < n -> atOk l[j]) /\ ∀ i j (hi : i < l.length) (hj : j < i), i < n -> ¬ l[j].name = l[i].name

def AttrsOk (l : List At) : Prop := l.length <= 6 /\ AtsOk l.length l

noncomputable def attrsB (l : List At) : Bool := open Classical in decide (AttrsOk l)

theorem attrsB_t {l : List At} (h : AttrsOk l) : attrsB l = true := by unfold attrsB; simp [h]

theorem attrsB_f {l : List At} (h : ¬ AttrsOk l) : attrsB l = false := by unfold attrsB; simp [h]

theorem AtsOk.next {l : List At} {i : Nat} (hi : i < l.length) (h : AtsOk i l) (h1 : atOk l[i]) (h2 : ∀ j (hj : j < i), ¬ l[j].name = l[i].name) : AtsOk (i + 1) l := by
 refine ⟨fun j hj hlt => ?_, fun a b ha hb hlt => ?_⟩
 ·rcases Nat.lt_or_eq_of_le (Nat.le_of_lt_succ hlt) with h' | h'
  ·exact h.1 j hj h'
  ·subst h'; exact h1
 ·rcases Nat.lt_or_eq_of_le (Nat.le_of_lt_succ hlt) with h' | h'
  ·exact h.2 a b ha hb h'
  ·subst h'; exact h2 b hb

theorem bytes_beq (a b : ByteArray) : (a.toList == b.toList) = decide (a = b) := str_beq a b

theorem c_spec_In7 (x lo hi : Int) (w : World) :
  Calls Tryz.prog 50 #[.int .i64 x, .int .i64 lo, .int .i64 hi] w fun e w' => e = .returned (.bool (decide (lo <= x /\ x <= hi))) /\ w' = w := by
 go_enter Tryz.func50, Tryz.ntmps50
 go_wp2
 all_goals go_ret
 all_goals exact ⟨by congr 2; simp; try omega, rfl⟩

set_option maxRecDepth 8000 in
set_option maxHeartbeats 4000000 in
theorem cL7Attrs (a : Option Addr) (cap : Nat) (l : List At) (w : World) (hR : AtRow w a l) (hz : AtSz 1048576 l) (hn : l.length <= 1048576) :
  Calls Tryz.prog 104 #[.slice a l.length cap] w fun e w' => e = .returned (.bool (attrsB l)) /\ Below w.heap.size w w' := by
 obtain ⟨V, hV⟩ : ∃ V, attrsB l = V := ⟨_, rfl⟩
 have HV := hid hV
 rw [hV]
 have HF : Hid (¬ AttrsOk l -> V = false) := fun h => by rw [<- HV.out]; exact attrsB_f h
 have HT : Hid (AttrsOk l -> V = true) := fun h => by rw [<- HV.out]; exact attrsB_t h
 clear hV HV
 have HR := hid hR
 have HZ := hid hz
 clear hR hz
 obtain ⟨n, hnn⟩ : ∃ n, l.length = n := ⟨_, rfl⟩
 have HN := hid hnn
 rw [hnn] at hn ⊢
 clear hnn
 go_enter Tryz.func104, Tryz.ntmps104
 go_wp2
 go_loopw [3] (fun k wr => ∃ i : Nat, k = .int .i64 (i : Int) /\ i <= n /\ Hid (AtsOk i l) /\ Hid (Below w.heap.size w wr)) (fun k _ => n - (intOf k).toNat)
 case atStart => exact ⟨0, rfl, Nat.zero_le _, ⟨fun j _ h => by omega, fun i j _ _ h => by omega⟩, Below.refl _ _⟩
 case round =>
  obtain ⟨i, rfl, hi, HA, HB⟩ := hrel
  by_cases hlt : i < n
  ·have his : i < l.length := by rw [HN.out]; exact hlt
   have hin : (i : Int) < (n : Int) := by omega
   obtain ⟨b, o, rfl, hb, c1, c2⟩ := HR.out.below HB.out i his
   obtain ⟨z1, z2⟩ := HZ.out _ (List.getElem_mem his)
   have CN := fun w => c_spec_NameOk l[i].name w z1
   have CP := fun w => c_spec_PlainOk l[i].value w (by unfold maxLen; omega)
   by_cases q1 : nameL l[i].name.data.toList = true
   ·by_cases q2 : plainL l[i].value.data.toList = true
    ·by_cases q3 : l[i].value.size <= 60
     ·have HOK := hid (show atOk l[i] from ⟨q1, q2, q3⟩)
      rw [q1] at CN
      rw [q2] at CP
      obtain ⟨x, hx⟩ : ∃ x, l[i].name = x := ⟨_, rfl⟩
      obtain ⟨y, hy⟩ : ∃ y, l[i].value = y := ⟨_, rfl⟩
      have HX := hid hx
      rw [hx] at c1 CN
      rw [hy] at c2 CP z2 q3
      have q3' : decide ((60 : Int) < (y.size : Int)) = false := by simp; omega
      clear hx hy q1 q2 z1
      go_wp2_with fail
      refine (CN _).mono ?_
      rintro e w1 ⟨rfl, hb1⟩
      have HB1 := hid (bb HB.out hb1)
      have d2 : w1.cell? ⟨b, o + i * 2 + 1, none⟩ = some (.string y) := (hb1.cell (p := ⟨b, o + i * 2 + 1, none⟩) hb).trans c2
      clear hb1 c1 c2 CN
      go_wp2_with fail
      refine (CP _).mono ?_
      rintro e w2 ⟨rfl, rfl⟩
      clear CP
      go_wp2_with fail
      clear d2 q3' q3 z2
      go_loopw [4] (fun k wr => ∃ j : Nat, k = .int .i64 (j : Int) /\ j <= i /\ Hid (∀ m (hm : m < j) (hm' : m < l.length), ¬ l[m].name = x) /\ Hid (Below w.heap.size w wr)) (fun k _ => i - (intOf k).toNat)
      case atStart => exact ⟨0, rfl, Nat.zero_le _, fun m hm => by omega, HB1.out⟩
      case round =>
       clear HB1
       obtain ⟨j, rfl, hj, HO, HB2⟩ := hrel
       by_cases hji : j < i
       ·have hjs : j < l.length := by omega
        have hjn : (j : Int) < (n : Int) := by omega
        have hjii : (j : Int) < (i : Int) := by omega
        obtain ⟨b2, o2, e2, hb2, c1, _⟩ := HR.out.below HB2.out j hjs
        obtain ⟨b3, o3, e3, _, c3, _⟩ := HR.out.below HB2.out i his
        obtain ⟨rfl, rfl⟩ : b = b2 /\ o = o2 := by cases e2; exact ⟨rfl, rfl⟩
        obtain ⟨rfl, rfl⟩ : b = b3 /\ o = o3 := by cases e3; exact ⟨rfl, rfl⟩
        rw [HX.out] at c3
        have zj := (HZ.out _ (List.getElem_mem hjs)).1
        have zi := (HZ.out _ (List.getElem_mem his)).1
        rw [HX.out] at zi
        clear e2 e3
        by_cases hq : l[j].name = x
        ·have HW := hid (HF.out (fun h => h.2.2 i j his hji (by rw [HN.out]; exact hlt) (by rw [hq, HX.out])))
         have hd : (l[j].name.toList == x.toList) = true := by rw [str_beq]; exact decide_eq_true hq
         generalize l[j].name = u at c1 hd zj
         clear hq
         go_wp2_with fail
         go_quiet (fail)
         go_wp2_with fail
         go_ret
         exact ⟨by rw [HW.out]; rfl, below_drewN HB2.out _⟩
        ·have HO2 := hid (show ∀ m (hm : m < j + 1) (hm' : m < l.length), ¬ l[m].name = x from fun m hm hm' => by
          rcases Nat.lt_or_eq_of_le (Nat.le_of_lt_succ hm) with h' | h'
          ·exact HO.out m h' hm'
          ·subst h'; exact hq)
         have hd : (l[j].name.toList == x.toList) = false := by rw [str_beq]; exact decide_eq_false hq
         generalize l[j].name = u at c1 hd zj
         clear hq
         go_wp2_with fail
         go_quiet (fail)
         go_wp2_with fail
         go_roundw
         case rel => exact ⟨j + 1, by go_num, by omega, HO2.out, below_drewN HB2.out _⟩
         case measure => simp [intOf]; omega
       ·have hji' : j = i := by omega
        subst hji'
        have HA2 := hid (HA.out.next his HOK.out (fun m hm => by rw [HX.out]; exact HO.out m hm (by omega)))
        go_wp2_with fail
        go_roundw
        case rel => exact ⟨j + 1, by go_num, by omega, HA2.out, HB2.out⟩
        case measure => simp [intOf]; omega
     ·have HW := hid (HF.out (fun h => q3 (h.2.1 i his (by rw [HN.out]; exact hlt)).2.2))
      rw [q1] at CN
      rw [q2] at CP
      obtain ⟨x, hx⟩ : ∃ x, l[i].name = x := ⟨_, rfl⟩
      obtain ⟨y, hy⟩ : ∃ y, l[i].value = y := ⟨_, rfl⟩
      rw [hx] at c1 CN
      rw [hy] at c2 CP z2 q3
      have q3' : decide ((60 : Int) < (y.size : Int)) = true := by simp; omega
      clear hx hy q1 q2 z1
      go_wp2_with fail
      refine (CN _).mono ?_
      rintro e w1 ⟨rfl, hb1⟩
      have HB1 := hid (bb HB.out hb1)
      have d2 : w1.cell? ⟨b, o + i * 2 + 1, none⟩ = some (.string y) := (hb1.cell (p := ⟨b, o + i * 2 + 1, none⟩) hb).trans c2
      clear hb1 c1 c2 CN
      go_wp2_with fail
      refine (CP _).mono ?_
      rintro e w2 ⟨rfl, rfl⟩
      clear CP
      go_wp2_with fail
      go_ret
      exact ⟨by rw [HW.out]; rfl, HB1.out⟩
    ·have HW := hid (HF.out (fun h => q2 (h.2.1 i his (by rw [HN.out]; exact hlt)).2.1))
     have q2' : plainL l[i].value.data.toList = false := by simpa using q2
     rw [q1] at CN
     rw [q2'] at CP
     obtain ⟨x, hx⟩ : ∃ x, l[i].name = x := ⟨_, rfl⟩
     obtain ⟨y, hy⟩ : ∃ y, l[i].value = y := ⟨_, rfl⟩
     rw [hx] at c1 CN
     rw [hy] at c2 CP
     clear hx hy q1 q2 q2' z1 z2
     go_wp2_with fail
     refine (CN _).mono ?_
     rintro e w1 ⟨rfl, hb1⟩
     have HB1 := hid (bb HB.out hb1)
     have d2 : w1.cell? ⟨b, o + i * 2 + 1, none⟩ = some (.string y) := (hb1.cell (p := ⟨b, o + i * 2 + 1, none⟩) hb).trans c2
     clear hb1 c1 c2 CN
     go_wp2_with fail
     refine (CP _).mono ?_
     rintro e w2 ⟨rfl, rfl⟩
     clear CP
     go_wp2_with fail
     go_ret
     exact ⟨by rw [HW.out]; rfl, HB1.out⟩
   ·have HW := hid (HF.out (fun h => q1 (h.2.1 i his (by rw [HN.out]; exact hlt)).1))
    have q1' : nameL l[i].name.data.toList = false := by simpa using q1
    rw [q1'] at CN
    obtain ⟨x, hx⟩ : ∃ x, l[i].name = x := ⟨_, rfl⟩
    rw [hx] at c1 CN
    clear hx q1 q1' z1 z2 c2 CP
    go_wp2_with fail
    refine (CN _).mono ?_
    rintro e w1 ⟨rfl, hb1⟩
    have HB1 := hid (bb HB.out hb1)
    clear hb1 c1 CN
    go_wp2_with fail
    go_ret
    exact ⟨by rw [HW.out]; rfl, HB1.out⟩
  ·have hie : i = n := by omega
   subst hie
   by_cases h6 : i <= 6
   ·have HW := hid (HT.out ⟨by rw [HN.out]; exact h6, by rw [HN.out]; exact HA.out⟩)
    have hd : decide ((i : Int) <= 6) = true := by simp; omega
    go_wp2_with fail
    go_ret
    exact ⟨by rw [HW.out]; rfl, HB.out⟩
   ·have HW := hid (HF.out (fun h => h6 (by have := h.1; rw [HN.out] at this; exact this)))
    have hd : decide ((i : Int) <= 6) = false := by simp; omega
    go_wp2_with fail
    go_ret
    exact ⟨by rw [HW.out]; rfl, HB.out⟩

end Go.Proofs.YtlpbbkaelbafdaaGreatDoor

namespace Go.Proofs.YtlpbbkaelbafdaaGreatDoor
open Go.RowKit

def textB (s : ByteArray) : Bool := plainL s.data.toList && decide (1 <= s.size /\ s.size <= 60)

noncomputable def tokB (t : Tk) : Bool :=
 if t.kind = 1 then nameL t.name.data.toList && (attrsB t.attrs && decide (t.text.size = 0))
 else if t.kind = 2 then nameL t.name.data.toList && (decide (t.attrs.length = 0) && decide (t.text.size = 0))
 else if t.kind = 3 then decide (t.name.size = 0) && (decide (t.attrs.length = 0) && textB t.text)
 else false

theorem empty_beq (s : ByteArray) : (s.toList == (⟨#[]⟩ : ByteArray).toList) = decide (s.size = 0) := by
 rw [str_beq]
 by_cases h : s.size = 0
 ·rw [decide_eq_true h]
  refine decide_eq_true (ByteArray.ext ?_)
  exact Array.eq_empty_of_size_eq_zero h
 ·rw [decide_eq_false h]
  refine decide_eq_false (fun e => h ?_)
  rw [e]; rfl

theorem empty_is (s : ByteArray) : s.toList.isEmpty = decide (s.size = 0) := by
 have e : s.size = s.data.toList.length := rfl
 rw [ByteArray.toList_eq, e]
 cases s.data.toList <;> simp

theorem cL7Text (s : ByteArray) (w : World) (hs : s.size <= 1048576) :
  Calls Tryz.prog 105 #[.string s] w fun e w' => e = .returned (.bool (textB s)) /\ w' = w := by
 have CP := fun w => c_spec_PlainOk s w (by unfold maxLen; omega)
 have CI := fun w => c_spec_In7 (s.size : Int) 1 60 w
 by_cases q : plainL s.data.toList = true
 ·have e : textB s = decide ((1 : Int) <= (s.size : Int) /\ (s.size : Int) <= 60) := by
   unfold textB; rw [q, Bool.true_and]; congr 1; exact propext (by omega)
  rw [e]
  rw [q] at CP
  obtain ⟨B, hB⟩ : ∃ B, decide ((1 : Int) <= (s.size : Int) /\ (s.size : Int) <= 60) = B := ⟨_, rfl⟩
  rw [hB] at CI ⊢
  clear hB q e
  go_enter Tryz.func105, Tryz.ntmps105
  go_wp2_with fail
  refine (CP _).mono ?_
  rintro e w1 ⟨rfl, rfl⟩
  go_wp2_with fail
  refine (CI _).mono ?_
  rintro e w1 ⟨rfl, rfl⟩
  go_wp2_with fail
  go_ret
  exact ⟨rfl, rfl⟩
 ·have q : plainL s.data.toList = false := by simpa using q
  rw [show textB s = false by unfold textB; rw [q]; rfl]
  rw [q] at CP
  clear q
  go_enter Tryz.func105, Tryz.ntmps105
  go_wp2_with fail
  refine (CP _).mono ?_
  rintro e w1 ⟨rfl, rfl⟩
  go_wp2_with fail
  go_ret
  exact ⟨rfl, rfl⟩

end Go.Proofs.YtlpbbkaelbafdaaGreatDoor

namespace Go.Proofs.YtlpbbkaelbafdaaGreatDoor
open Go.RowKit

def parI (ts : List Tk) (j : Nat) : Int := match ts[j]? with | some t => t.kind | none => -1

theorem parI_at {ts : List Tk} {j : Nat} (h : j < ts.length) : parI ts j = ts[j].kind := by unfold parI; rw [List.getElem?_eq_getElem h]

def elN (ts : List Tk) (j : Nat) : Prop := ∃ h : j < ts.length, ¬ ts[j].name.size = 0

def chainF (ts : List Tk) : Nat -> List Nat
 | 0 => []
 | i + 1 => i :: (chainF ts i).dropWhile (fun (j : Nat) => !decide ((j : Int) = parI ts i))

def Linked (ts : List Tk) : List Nat -> Prop
 | [] => False
 | [x] => x = 0
 | x :: y :: r => parI ts x = (y : Int) /\ y < x /\ Linked ts (y :: r)

theorem Linked.tail {ts : List Tk} {x y : Nat} {r : List Nat} (h : Linked ts (x :: y :: r)) : Linked ts (y :: r) := h.2.2

theorem Linked.le {ts : List Tk} : ∀ {c : List Nat} {x : Nat}, Linked ts (x :: c) -> ∀ y ∈ x :: c, y <= x
 | [], x, h, y, hy => by rw [List.mem_singleton] at hy; omega
 | z :: r, x, h, y, hy => by
  rcases List.mem_cons.1 hy with rfl | hy
  ·exact Nat.le_refl _
  ·have := Linked.le (ts := ts) h.tail y hy
   have := h.2.1
   omega

theorem Linked.drop {ts : List Tk} : ∀ {c : List Nat}, Linked ts c -> ∀ p, p ∈ c -> ∃ r, c.dropWhile (fun (j : Nat) => !decide ((j : Int) = (p : Int))) = p :: r /\ Linked ts (p :: r)
 | [], h, p, hp => absurd hp (by simp)
 | [x], h, p, hp => by
  rw [List.mem_singleton] at hp
  subst hp
  exact ⟨[], by simp, h⟩
 | x :: y :: r, h, p, hp => by
  by_cases e : x = p
  ·subst e
   exact ⟨y :: r, by simp, h⟩
  ·have hp' : p ∈ y :: r := by
    rcases List.mem_cons.1 hp with h' | h'
    ·exact absurd h'.symm e
    ·exact h'
   obtain ⟨r', e1, e2⟩ := Linked.drop h.tail p hp'
   refine ⟨r', ?_, e2⟩
   rw [List.dropWhile_cons, if_pos (by simp; omega)]
   exact e1

def UpOk (ts : List Tk) (i : Nat) : Prop := i = 0 \/ ∃ p, p ∈ chainF ts i /\ (p : Int) = parI ts i /\ elN ts p

theorem linked_next {ts : List Tk} {i : Nat} (h : Linked ts (chainF ts i)) (hu : UpOk ts i) (hi : ¬ i = 0) (hlt : ∀ p ∈ chainF ts i, p < i) : Linked ts (chainF ts (i + 1)) /\ ∃ p r, chainF ts (i + 1) = i :: p :: r /\ (p : Int) = parI ts i /\ p < i := by
 rcases hu with h0 | ⟨p, hp, e, _⟩
 ·exact absurd h0 hi
 ·obtain ⟨r, e1, e2⟩ := h.drop p hp
  have e3 : chainF ts (i + 1) = i :: p :: r := by
   show i :: (chainF ts i).dropWhile (fun (j : Nat) => !decide ((j : Int) = parI ts i)) = _
   rw [<- e, e1]
  rw [e3]
  exact ⟨⟨e.symm, hlt p hp, e2⟩, p, r, rfl, e, hlt p hp⟩

theorem chain_head (ts : List Tk) (i : Nat) : ∃ r, chainF ts (i + 1) = i :: r := ⟨_, rfl⟩

theorem linked_all {ts : List Tk} : ∀ i, (∀ j, j < i + 1 -> UpOk ts j) -> Linked ts (chainF ts (i + 1)) /\ ∀ p ∈ chainF ts (i + 1), p < i + 1
 | 0, _ => ⟨rfl, fun p hp => by have : p ∈ [0] := hp; simp at this; omega⟩
 | i + 1, h => by
  obtain ⟨h1, h2⟩ := linked_all i (fun j hj => h j (by omega))
  obtain ⟨h3, p, r, e, _, _⟩ := linked_next h1 (h (i + 1) (by omega)) (by omega) h2
  refine ⟨h3, fun q hq => ?_⟩
  rw [e] at h3 hq
  have := h3.le q hq
  omega

noncomputable def depI (ts : List Tk) (i : Nat) : Int := open Classical in if UpOk ts i then ((chainF ts (i + 1)).length : Int) else 0

theorem depI_t {ts : List Tk} {i : Nat} (h : UpOk ts i) : depI ts i = ((chainF ts (i + 1)).length : Int) := by unfold depI; exact if_pos h

theorem depI_f {ts : List Tk} {i : Nat} (h : ¬ UpOk ts i) : depI ts i = 0 := by unfold depI; exact if_neg h

noncomputable def nodeB (t : Tk) : Bool :=
 if t.name.size = 0 then decide (t.attrs.length = 0) && textB t.text else nameL t.name.data.toList && (attrsB t.attrs && decide (t.text.size = 0))

def TwinAt (ts : List Tk) (i : Nat) : Prop := ∃ (h : i < ts.length) (h0 : 0 < i), ts[i].name.size = 0 /\ (ts[i - 1]'(by omega)).name.size = 0 /\ (ts[i - 1]'(by omega)).kind = ts[i].kind

def NodeOk (ts : List Tk) (i : Nat) : Prop := (∃ h : i < ts.length, nodeB ts[i] = true) /\ UpOk ts i /\ (chainF ts (i + 1)).length <= 9 /\ ¬ TwinAt ts i

def TreeP (ts : List Tk) : Prop := 1 <= ts.length /\ ts.length <= 50 /\ parI ts 0 = -1 /\ elN ts 0 /\ ∀ i, i < ts.length -> NodeOk ts i

noncomputable def treeB (ts : List Tk) : Bool := open Classical in decide (TreeP ts)

theorem treeB_t {ts : List Tk} (h : TreeP ts) : treeB ts = true := by unfold treeB; simp [h]

theorem treeB_f {ts : List Tk} (h : ¬ TreeP ts) : treeB ts = false := by unfold treeB; simp [h]

end Go.Proofs.YtlpbbkaelbafdaaGreatDoor
