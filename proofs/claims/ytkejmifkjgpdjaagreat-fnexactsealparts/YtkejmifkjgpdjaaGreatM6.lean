/- Plain mathematics for this seat: bytes that are plain, what is escaped, what is unescaped; nothing of the program stands here. Contracts of the functions that ask whether bytes are plain. Contracts of what the specification asks of tokens. -/
import Derived.Test.YtkejmifkjgpdjaaGreatRows
import Derived.Test.YtkejmifkjgpdjaaGreatM2
import Derived.Test.YtkejmifkjgpdjaaGreatM5
import Derived.WalkKit
namespace Go.Proofs.YtkejmifkjgpdjaaGreat
open Go.RowKit

/-- Is this byte plain: 32 to 126, or 10? -/
def plainB (c : Int) : Bool := (decide (32 ≤ c) && decide (c ≤ 126)) || (c == 10)

def plainL (l : List UInt8) : Bool := l.all fun c => plainB c.toNat

theorem take_snocE (s : ByteArray) (k : Nat) (h : k < s.size) : s.data.toList.take (k + 1) = s.data.toList.take k ++ [s[k]] := by
  rw [List.take_succ_eq_append_getElem (by simpa using h)]; rfl

theorem plainL_snoc (l : List UInt8) (c : UInt8) : plainL (l ++ [c]) = (plainL l && plainB c.toNat) := by
  simp [plainL]

theorem plainL_full (s : ByteArray) (k : Nat) (h : ¬ k < s.size) : s.data.toList.take k = s.data.toList := by
  have e : s.size = s.data.toList.length := rfl
  exact List.take_of_length_le (by omega)

theorem plainL_no (s : ByteArray) (k : Nat) (h : k < s.size) (hb : plainB s[k].toNat = false) : plainL s.data.toList = false := by
  have hm : s[k] ∈ s.data.toList := by simp [ByteArray.getElem_eq_getElem_data]
  cases hp : plainL s.data.toList with
  | false => rfl
  | true =>
    unfold plainL at hp
    rw [List.all_eq_true] at hp
    have := hp _ hm
    rw [hb] at this
    exact absurd this (by decide)

/-- What a byte is written as, between quotes or not. -/
def escB (q : Bool) (c : UInt8) : List UInt8 :=
  if c.toNat = 38 then [38, 97, 109, 112, 59] else if c.toNat = 60 then [38, 108, 116, 59]
  else if c.toNat = 62 then (if q then [c] else [38, 103, 116, 59]) else if c.toNat = 34 then (if q then [38, 113, 117, 111, 116, 59] else [c]) else [c]

def escL (q : Bool) (l : List UInt8) : List UInt8 := l.flatMap (escB q)

def escapedL (q : Bool) (l : List UInt8) : List UInt8 := if plainL l then escL q l else []

theorem escL_snoc (q : Bool) (l : List UInt8) (c : UInt8) : escL q (l ++ [c]) = escL q l ++ escB q c := by
  simp [escL]

theorem escB_le (q : Bool) (c : UInt8) : (escB q c).length ≤ 6 := by
  unfold escB; (repeat' split) <;> simp

theorem escL_le (q : Bool) (l : List UInt8) : (escL q l).length ≤ 6 * l.length := by
  induction l with
  | nil => simp [escL]
  | cons c l ih =>
    have h : escL q (c :: l) = escB q c ++ escL q l := by simp [escL]
    have := escB_le q c
    rw [h, List.length_append, List.length_cons]
    omega

end Go.Proofs.YtkejmifkjgpdjaaGreat

namespace Go.Proofs.YtkejmifkjgpdjaaGreat
open Go.RowKit

theorem ret_boolE {a b : Bool} (h : a = b) : Ending.returned (.bool a) = .returned (.bool b) := by rw [h]

theorem c_spec_l1Plain (c : Int) (w : World) (h0 : 0 ≤ c) (h1 : c ≤ 255) :
    Calls Tryz.prog 104 #[.int .u8 c] w fun e w' => e = .returned (.bool (plainB c)) ∧ w' = w := by
  go_enter Tryz.func104, Tryz.ntmps104
  go_wp2
  all_goals go_ret
  all_goals exact ⟨ret_boolE (by rw [Bool.eq_iff_iff]; simp [plainB]; omega), rfl⟩

theorem c__impl_sign__plain (c : Int) (w : World) (h0 : 0 ≤ c) (h1 : c ≤ 255) :
    Calls Tryz.prog 142 #[.int .u8 c] w fun e w' => e = .returned (.bool (plainB c)) ∧ w' = w := by
  go_enter Tryz.func142, Tryz.ntmps142
  go_wp2
  all_goals go_ret
  all_goals exact ⟨ret_boolE (by rw [Bool.eq_iff_iff]; simp [plainB]; try omega), rfl⟩

theorem c_spec_PlainOk (s : ByteArray) (w : World) (hs : s.size ≤ maxLen) :
    Calls Tryz.prog 73 #[.string s] w fun e w' => e = .returned (.bool (plainL s.data.toList)) ∧ w' = w := by
  unfold maxLen at hs
  go_enter Tryz.func73, Tryz.ntmps73
  go_wp2
  go_loop [3] (fun i => ∃ k : Nat, k ≤ s.size ∧ i = .int .i64 k ∧ plainL (s.data.toList.take k) = true) (fun i => s.size - (intOf i).toNat)
  case atStart => exact ⟨0, Nat.zero_le _, rfl, rfl⟩
  case round =>
    obtain ⟨k, hk, rfl, hp⟩ := hrel
    by_cases hlt : k < s.size
    · have HP : Hid (plainL (s.data.toList.take k) = true) := hp
      clear hp
      have hb : (s[k].toNat : Int) ≤ 255 := by have := s[k].toNat_lt; omega
      cases hc : plainB s[k].toNat
      · go_wp2_with (go_at_call 104; refine (c_spec_l1Plain _ _ (by omega) hb).mono ?_; rintro e w' ⟨rfl, rfl⟩)
        go_ret
        exact ⟨ret_boolE (plainL_no s k hlt hc).symm, rfl⟩
      · go_wp2_with (go_at_call 104; refine (c_spec_l1Plain _ _ (by omega) hb).mono ?_; rintro e w' ⟨rfl, rfl⟩)
        go_round
        case rel => exact ⟨k + 1, by omega, by go_num, by rw [take_snocE s k hlt, plainL_snoc, HP.out, hc]; rfl⟩
        case measure => simp [intOf]; omega
    · go_wp2
      go_ret
      exact ⟨ret_boolE (by rw [← plainL_full s k hlt]; exact hp.symm), rfl⟩

theorem c_impl_allSignsE (s : ByteArray) (w : World) (hs : s.size ≤ maxLen) :
    Calls Tryz.prog 88 #[.string s, .func (.func 142) #[] #[]] w fun e w' => e = .returned (.bool (plainL s.data.toList)) ∧ w' = w := by
  unfold maxLen at hs
  go_enter Tryz.func88, Tryz.ntmps88
  go_wp2
  go_loop [8] (fun i => ∃ k : Nat, k ≤ s.size ∧ i = .int .i64 k ∧ plainL (s.data.toList.take k) = true) (fun i => s.size - (intOf i).toNat)
  case atStart => exact ⟨0, Nat.zero_le _, rfl, rfl⟩
  case round =>
    obtain ⟨k, hk, rfl, hp⟩ := hrel
    by_cases hlt : k < s.size
    · have HP : Hid (plainL (s.data.toList.take k) = true) := hp
      clear hp
      have hb : (s[k].toNat : Int) ≤ 255 := by have := s[k].toNat_lt; omega
      cases hc : plainB s[k].toNat
      · go_wp2_with (go_at_call 142; refine (c__impl_sign__plain _ _ (by omega) hb).mono ?_; rintro e w' ⟨rfl, rfl⟩)
        go_ret
        exact ⟨ret_boolE (plainL_no s k hlt hc).symm, rfl⟩
      · go_wp2_with (go_at_call 142; refine (c__impl_sign__plain _ _ (by omega) hb).mono ?_; rintro e w' ⟨rfl, rfl⟩)
        go_round
        case rel => exact ⟨k + 1, by omega, by go_num, by rw [take_snocE s k hlt, plainL_snoc, HP.out, hc]; rfl⟩
        case measure => simp [intOf]; omega
    · go_wp2
      go_ret
      exact ⟨ret_boolE (by rw [← plainL_full s k hlt]; exact hp.symm), rfl⟩

theorem c_impl_PlainOk (s : ByteArray) (w : World) (hs : s.size ≤ maxLen) :
    Calls Tryz.prog 124 #[.string s] w fun e w' => e = .returned (.bool (plainL s.data.toList)) ∧ w' = w := by
  go_enter Tryz.func124, Tryz.ntmps124
  go_wp2_with (go_at_call 88; refine (c_impl_allSignsE _ _ hs).mono ?_; rintro e w' ⟨rfl, rfl⟩)
  go_ret
  exact ⟨rfl, rfl⟩

end Go.Proofs.YtkejmifkjgpdjaaGreat

namespace Go.Proofs.YtkejmifkjgpdjaaGreat
open Go.RowKit
set_option linter.unusedVariables false
set_option linter.unusedSimpArgs false

/-- An attr that is right. -/
def atOk (x : At) : Prop := nameL x.name.data.toList = true ∧ plainL x.value.data.toList = true ∧ x.value.size ≤ 60

/-- The first n of these are right, and no two names of them alike. -/
def AtsOk (n : Nat) (l : List At) : Prop := (∀ j (h : j < l.length), j < n → atOk l[j]) ∧ ∀ i j (hi : i < l.length) (hj : j < i), i < n → ¬ l[j].name = l[i].name

/-- Attrs that are right. -/
def AttrsOk (l : List At) : Prop := l.length ≤ 6 ∧ AtsOk l.length l

noncomputable def attrsB (l : List At) : Bool := open Classical in decide (AttrsOk l)

theorem attrsB_t {l : List At} (h : AttrsOk l) : attrsB l = true := by unfold attrsB; simp [h]

theorem attrsB_f {l : List At} (h : ¬ AttrsOk l) : attrsB l = false := by unfold attrsB; simp [h]

theorem AtsOk.next {l : List At} {i : Nat} (hi : i < l.length) (h : AtsOk i l) (h1 : atOk l[i]) (h2 : ∀ j (hj : j < i), ¬ l[j].name = l[i].name) : AtsOk (i + 1) l := by
  refine ⟨fun j hj hlt => ?_, fun a b ha hb hlt => ?_⟩
  · rcases Nat.lt_or_eq_of_le (Nat.le_of_lt_succ hlt) with h' | h'
    · exact h.1 j hj h'
    · subst h'; exact h1
  · rcases Nat.lt_or_eq_of_le (Nat.le_of_lt_succ hlt) with h' | h'
    · exact h.2 a b ha hb h'
    · subst h'; exact h2 b hb

theorem bytes_beq (a b : ByteArray) : (a.toList == b.toList) = decide (a = b) := str_beq a b

theorem c_spec_In7 (x lo hi : Int) (w : World) :
    Calls Tryz.prog 64 #[.int .i64 x, .int .i64 lo, .int .i64 hi] w fun e w' => e = .returned (.bool (decide (lo ≤ x ∧ x ≤ hi))) ∧ w' = w := by
  go_enter Tryz.func64, Tryz.ntmps64
  go_wp2
  all_goals go_ret
  all_goals exact ⟨by congr 2; simp; try omega, rfl⟩

set_option maxRecDepth 8000 in
set_option maxHeartbeats 4000000 in
theorem cL7Attrs (a : Option Addr) (cap : Nat) (l : List At) (w : World) (hR : AtRow w a l) (hz : AtSz 1048576 l) (hn : l.length ≤ 1048576) :
    Calls Tryz.prog 66 #[.slice a l.length cap] w fun e w' => e = .returned (.bool (attrsB l)) ∧ Below w.heap.size w w' := by
  obtain ⟨V, hV⟩ : ∃ V, attrsB l = V := ⟨_, rfl⟩
  have HV := hid hV
  rw [hV]
  have HF : Hid (¬ AttrsOk l → V = false) := fun h => by rw [← HV.out]; exact attrsB_f h
  have HT : Hid (AttrsOk l → V = true) := fun h => by rw [← HV.out]; exact attrsB_t h
  clear hV HV
  have HR := hid hR
  have HZ := hid hz
  clear hR hz
  obtain ⟨n, hnn⟩ : ∃ n, l.length = n := ⟨_, rfl⟩
  have HN := hid hnn
  rw [hnn] at hn ⊢
  clear hnn
  go_enter Tryz.func66, Tryz.ntmps66
  go_wp2
  go_loopw [3] (fun k wr => ∃ i : Nat, k = .int .i64 (i : Int) ∧ i ≤ n ∧ Hid (AtsOk i l) ∧ Hid (Below w.heap.size w wr)) (fun k _ => n - (intOf k).toNat)
  case atStart => exact ⟨0, rfl, Nat.zero_le _, ⟨fun j _ h => by omega, fun i j _ _ h => by omega⟩, Below.refl _ _⟩
  case round =>
    obtain ⟨i, rfl, hi, HA, HB⟩ := hrel
    by_cases hlt : i < n
    · have his : i < l.length := by rw [HN.out]; exact hlt
      have hin : (i : Int) < (n : Int) := by omega
      obtain ⟨b, o, rfl, hb, c1, c2⟩ := HR.out.below HB.out i his
      obtain ⟨z1, z2⟩ := HZ.out _ (List.getElem_mem his)
      have CN := fun w => c_spec_NameOk l[i].name w z1
      have CP := fun w => c_spec_PlainOk l[i].value w (by unfold maxLen; omega)
      by_cases q1 : nameL l[i].name.data.toList = true
      · by_cases q2 : plainL l[i].value.data.toList = true
        · by_cases q3 : l[i].value.size ≤ 60
          · have HOK := hid (show atOk l[i] from ⟨q1, q2, q3⟩)
            rw [q1] at CN
            rw [q2] at CP
            obtain ⟨x, hx⟩ : ∃ x, l[i].name = x := ⟨_, rfl⟩
            obtain ⟨y, hy⟩ : ∃ y, l[i].value = y := ⟨_, rfl⟩
            have HX := hid hx
            rw [hx] at c1 CN
            rw [hy] at c2 CP z2 q3
            have q3' : decide ((60 : Int) < (y.size : Int)) = false := by simp; omega
            clear hx hy q1 q2 z1
            go_wp2_with fail
            refine (CN _).mono ?_
            rintro e w1 ⟨rfl, hb1⟩
            have HB1 := hid (bb HB.out hb1)
            have d2 : w1.cell? ⟨b, o + i * 2 + 1, none⟩ = some (.string y) := (hb1.cell (p := ⟨b, o + i * 2 + 1, none⟩) hb).trans c2
            clear hb1 c1 c2 CN
            go_wp2_with fail
            refine (CP _).mono ?_
            rintro e w2 ⟨rfl, rfl⟩
            clear CP
            go_wp2_with fail
            clear d2 q3' q3 z2
            go_loopw [4] (fun k wr => ∃ j : Nat, k = .int .i64 (j : Int) ∧ j ≤ i ∧ Hid (∀ m (hm : m < j) (hm' : m < l.length), ¬ l[m].name = x) ∧ Hid (Below w.heap.size w wr)) (fun k _ => i - (intOf k).toNat)
            case atStart => exact ⟨0, rfl, Nat.zero_le _, fun m hm => by omega, HB1.out⟩
            case round =>
              clear HB1
              obtain ⟨j, rfl, hj, HO, HB2⟩ := hrel
              by_cases hji : j < i
              · have hjs : j < l.length := by omega
                have hjn : (j : Int) < (n : Int) := by omega
                have hjii : (j : Int) < (i : Int) := by omega
                obtain ⟨b2, o2, e2, hb2, c1, _⟩ := HR.out.below HB2.out j hjs
                obtain ⟨b3, o3, e3, _, c3, _⟩ := HR.out.below HB2.out i his
                obtain ⟨rfl, rfl⟩ : b = b2 ∧ o = o2 := by cases e2; exact ⟨rfl, rfl⟩
                obtain ⟨rfl, rfl⟩ : b = b3 ∧ o = o3 := by cases e3; exact ⟨rfl, rfl⟩
                rw [HX.out] at c3
                have zj := (HZ.out _ (List.getElem_mem hjs)).1
                have zi := (HZ.out _ (List.getElem_mem his)).1
                rw [HX.out] at zi
                clear e2 e3
                by_cases hq : l[j].name = x
                · have HW := hid (HF.out (fun h => h.2.2 i j his hji (by rw [HN.out]; exact hlt) (by rw [hq, HX.out])))
                  have hd : (l[j].name.toList == x.toList) = true := by rw [str_beq]; exact decide_eq_true hq
                  generalize l[j].name = u at c1 hd zj
                  clear hq
                  go_wp2_with fail
                  go_quiet (fail)
                  go_wp2_with fail
                  go_ret
                  exact ⟨by rw [HW.out]; rfl, below_drewN HB2.out _⟩
                · have HO2 := hid (show ∀ m (hm : m < j + 1) (hm' : m < l.length), ¬ l[m].name = x from fun m hm hm' => by
                    rcases Nat.lt_or_eq_of_le (Nat.le_of_lt_succ hm) with h' | h'
                    · exact HO.out m h' hm'
                    · subst h'; exact hq)
                  have hd : (l[j].name.toList == x.toList) = false := by rw [str_beq]; exact decide_eq_false hq
                  generalize l[j].name = u at c1 hd zj
                  clear hq
                  go_wp2_with fail
                  go_quiet (fail)
                  go_wp2_with fail
                  go_roundw
                  case rel => exact ⟨j + 1, by go_num, by omega, HO2.out, below_drewN HB2.out _⟩
                  case measure => simp [intOf]; omega
              · have hji' : j = i := by omega
                subst hji'
                have HA2 := hid (HA.out.next his HOK.out (fun m hm => by rw [HX.out]; exact HO.out m hm (by omega)))
                go_wp2_with fail
                go_roundw
                case rel => exact ⟨j + 1, by go_num, by omega, HA2.out, HB2.out⟩
                case measure => simp [intOf]; omega
          · have HW := hid (HF.out (fun h => q3 (h.2.1 i his (by rw [HN.out]; exact hlt)).2.2))
            rw [q1] at CN
            rw [q2] at CP
            obtain ⟨x, hx⟩ : ∃ x, l[i].name = x := ⟨_, rfl⟩
            obtain ⟨y, hy⟩ : ∃ y, l[i].value = y := ⟨_, rfl⟩
            rw [hx] at c1 CN
            rw [hy] at c2 CP z2 q3
            have q3' : decide ((60 : Int) < (y.size : Int)) = true := by simp; omega
            clear hx hy q1 q2 z1
            go_wp2_with fail
            refine (CN _).mono ?_
            rintro e w1 ⟨rfl, hb1⟩
            have HB1 := hid (bb HB.out hb1)
            have d2 : w1.cell? ⟨b, o + i * 2 + 1, none⟩ = some (.string y) := (hb1.cell (p := ⟨b, o + i * 2 + 1, none⟩) hb).trans c2
            clear hb1 c1 c2 CN
            go_wp2_with fail
            refine (CP _).mono ?_
            rintro e w2 ⟨rfl, rfl⟩
            clear CP
            go_wp2_with fail
            go_ret
            exact ⟨by rw [HW.out]; rfl, HB1.out⟩
        · have HW := hid (HF.out (fun h => q2 (h.2.1 i his (by rw [HN.out]; exact hlt)).2.1))
          have q2' : plainL l[i].value.data.toList = false := by simpa using q2
          rw [q1] at CN
          rw [q2'] at CP
          obtain ⟨x, hx⟩ : ∃ x, l[i].name = x := ⟨_, rfl⟩
          obtain ⟨y, hy⟩ : ∃ y, l[i].value = y := ⟨_, rfl⟩
          rw [hx] at c1 CN
          rw [hy] at c2 CP
          clear hx hy q1 q2 q2' z1 z2
          go_wp2_with fail
          refine (CN _).mono ?_
          rintro e w1 ⟨rfl, hb1⟩
          have HB1 := hid (bb HB.out hb1)
          have d2 : w1.cell? ⟨b, o + i * 2 + 1, none⟩ = some (.string y) := (hb1.cell (p := ⟨b, o + i * 2 + 1, none⟩) hb).trans c2
          clear hb1 c1 c2 CN
          go_wp2_with fail
          refine (CP _).mono ?_
          rintro e w2 ⟨rfl, rfl⟩
          clear CP
          go_wp2_with fail
          go_ret
          exact ⟨by rw [HW.out]; rfl, HB1.out⟩
      · have HW := hid (HF.out (fun h => q1 (h.2.1 i his (by rw [HN.out]; exact hlt)).1))
        have q1' : nameL l[i].name.data.toList = false := by simpa using q1
        rw [q1'] at CN
        obtain ⟨x, hx⟩ : ∃ x, l[i].name = x := ⟨_, rfl⟩
        rw [hx] at c1 CN
        clear hx q1 q1' z1 z2 c2 CP
        go_wp2_with fail
        refine (CN _).mono ?_
        rintro e w1 ⟨rfl, hb1⟩
        have HB1 := hid (bb HB.out hb1)
        clear hb1 c1 CN
        go_wp2_with fail
        go_ret
        exact ⟨by rw [HW.out]; rfl, HB1.out⟩
    · have hie : i = n := by omega
      subst hie
      by_cases h6 : i ≤ 6
      · have HW := hid (HT.out ⟨by rw [HN.out]; exact h6, by rw [HN.out]; exact HA.out⟩)
        have hd : decide ((i : Int) ≤ 6) = true := by simp; omega
        go_wp2_with fail
        go_ret
        exact ⟨by rw [HW.out]; rfl, HB.out⟩
      · have HW := hid (HF.out (fun h => h6 (by have := h.1; rw [HN.out] at this; exact this)))
        have hd : decide ((i : Int) ≤ 6) = false := by simp; omega
        go_wp2_with fail
        go_ret
        exact ⟨by rw [HW.out]; rfl, HB.out⟩

end Go.Proofs.YtkejmifkjgpdjaaGreat
