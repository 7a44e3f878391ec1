/- Identifiers in the program: plain mathematics, and the contracts of the signs of an identifier, of allSigns over them, idOk. Claims in the program: contracts of the signs of a word, of allSigns over them, of wordOk, factValueOk, factsOk, ClaimOk. Contract of the program's ClaimOk. -/
import Derived.Test.YtcjeodgfpnecgaaGreatDoorM11
import Derived.Test.YtcjeodgfpnecgaaGreatDoorM25
import Derived.Test.YtcjeodgfpnecgaaGreatDoorM12
import Derived.Test.YtcjeodgfpnecgaaGreatDoorM23
namespace Go.Proofs.YtcjeodgfpnecgaaGreatDoor
open Go.RowKit
set_option linter.unusedVariables false
set_option linter.unusedSimpArgs false

/-- A sign that may stand in an identifier. -/
def inIB (c : Int) : Bool := (decide (97 ≤ c) && decide (c ≤ 122)) || (decide (48 ≤ c) && decide (c ≤ 57))

theorem inIB_all : ∀ n : Fin 256, inB idLS (UInt8.ofNat n.val) = inIB (n.val : Int) := by decide +kernel

theorem inIB_is (c : UInt8) : inB idLS c = inIB c.toNat := by
  have h := inIB_all ⟨c.toNat, c.toNat_lt⟩
  have e : UInt8.ofNat c.toNat = c := by simp
  rw [e] at h
  exact h

set_option maxHeartbeats 1000000 in
theorem cInId (c : Int) (w : World) (h0 : 0 ≤ c) (h1 : c ≤ 255) :
    Calls Tryz.prog 88 #[.int .u8 c] w fun e w' => e = .returned (.bool (inIB c)) ∧ w' = w := by
  go_enter Tryz.func88, Tryz.ntmps88
  go_wp2_with (go_at_call 105; refine (cDigit _ _ h0 h1).mono ?_; rintro e w' ⟨rfl, rfl⟩)
  all_goals go_ret
  all_goals exact ⟨ret_bool (by rw [Bool.eq_iff_iff]; simp [inIB]; try omega), rfl⟩

/-- All signs may stand in an identifier. -/
def allId (l : List UInt8) : Bool := l.all fun c => inIB c.toNat

theorem allId_is (l : List UInt8) : (l.all fun c => idLS.data.toList.any fun d => decide (d = c)) = allId l := by
  unfold allId
  congr 1
  funext c
  exact inIB_is c

theorem allId_snoc (s : ByteArray) (k : Nat) (h : k < s.size) : allId (s.data.toList.take (k + 1)) = (allId (s.data.toList.take k) && inIB s[k].toNat) := by
  unfold allId
  rw [take_snoc s k h, List.all_append]
  simp

theorem allId_no (s : ByteArray) (k : Nat) (h : k < s.size) (hc : inIB s[k].toNat = false) : allId s.data.toList = false := by
  cases hA : allId s.data.toList with
  | false => rfl
  | true =>
    have := List.all_eq_true.1 hA s[k] (List.getElem_mem _)
    rw [hc] at this
    cases this

set_option maxHeartbeats 1000000 in
theorem cAllId (s : ByteArray) (w : World) (hs : s.size ≤ 1048576) :
    Calls Tryz.prog 87 #[.string s, .func (.func 88) #[] #[]] w fun e w' => e = .returned (.bool (allId s.data.toList)) ∧ w' = w := by
  go_enter Tryz.func87, Tryz.ntmps87
  go_wp2
  go_loop [8] (fun i => ∃ k : Nat, k ≤ s.size ∧ i = .int .i64 k ∧ Hid (allId (s.data.toList.take k) = true)) (fun i => s.size - (intOf i).toNat)
  case atStart => exact ⟨0, Nat.zero_le _, rfl, rfl⟩
  case round =>
    obtain ⟨k, hk, rfl, HP⟩ := hrel
    by_cases hlt : k < s.size
    · have hb : (s[k].toNat : Int) ≤ 255 := by have := s[k].toNat_lt; omega
      cases hc : inIB s[k].toNat
      · go_wp2_with (go_at_call 88; refine (cInId _ _ (by omega) hb).mono ?_; rintro e w' ⟨rfl, rfl⟩)
        go_ret
        exact ⟨ret_bool (allId_no s k hlt hc).symm, rfl⟩
      · go_wp2_with (go_at_call 88; refine (cInId _ _ (by omega) hb).mono ?_; rintro e w' ⟨rfl, rfl⟩)
        go_round
        case rel => exact ⟨k + 1, by omega, by go_num, by show allId _ = true; rw [allId_snoc s k hlt, HP.out, hc]; rfl⟩
        case measure => simp [intOf]; omega
    · go_wp2
      go_ret
      exact ⟨ret_bool (by rw [← take_full s k hlt]; exact HP.out.symm), rfl⟩

theorem idOk_is (s : ByteArray) : idOk s = (decide (1 ≤ s.size) && (decide (s.size ≤ 12) && allId s.data.toList)) := by
  unfold idOk ofB
  rw [allId_is, Bool.and_comm (allId s.data.toList)]
  have e : (!decide (s.size = 0)) = decide (1 ≤ s.size) := by
    by_cases h : s.size = 0
    · rw [decide_eq_true h, decide_eq_false (show ¬ 1 ≤ s.size by omega)]; rfl
    · rw [decide_eq_false h, decide_eq_true (show 1 ≤ s.size by omega)]; rfl
  rw [e]

set_option maxHeartbeats 2000000 in
theorem cIdOk (s : ByteArray) (w : World) (hs : s.size ≤ 1048576) :
    Calls Tryz.prog 58 #[.string s] w fun e w' => e = .returned (.bool (idOk s)) ∧ w' = w := by
  have C := hid (fun wx => cAllId s wx hs)
  rw [idOk_is]
  generalize allId s.data.toList = M at *
  by_cases h1 : 1 ≤ s.size
  · rw [decide_eq_true h1]
    have h1' : (1 : Int) ≤ (s.size : Int) := by omega
    by_cases h12 : s.size ≤ 12
    · rw [decide_eq_true h12]
      have h12' : (s.size : Int) ≤ 12 := by omega
      go_enter Tryz.func58, Tryz.ntmps58
      go_wp2_with fail
      refine (C.out _).mono ?_
      rintro e w1 ⟨rfl, rfl⟩
      go_wp2_with fail
      go_ret
      exact ⟨by simp, rfl⟩
    · rw [decide_eq_false h12]
      have h12' : ¬ (s.size : Int) ≤ 12 := by omega
      go_enter Tryz.func58, Tryz.ntmps58
      go_wp2_with fail
      go_ret
      exact ⟨by simp, rfl⟩
  · rw [decide_eq_false h1]
    have h1' : ¬ (1 : Int) ≤ (s.size : Int) := by omega
    go_enter Tryz.func58, Tryz.ntmps58
    go_wp2_with fail
    go_ret
    exact ⟨by simp, rfl⟩

theorem treeB_p {ts : List Tk} (h : treeB ts = true) : TreeP ts := by
  by_cases q : TreeP ts
  · exact q
  · rw [treeB_f q] at h; cases h

/-- In a tree an attr of that name is the one that is found. -/
theorem tree_id {ts : List Tk} (hT : TreeP ts) {k : Nat} (hk : k < ts.length) {i : Nat} (hi : i < ts[k].attrs.length) (hn : ts[k].attrs[i].name = idS) : idAt ts k = some ts[k].attrs[i].value := by
  rw [idAt_at hk]
  refine valF_at hi (fun x hx => ?_) hn
  obtain ⟨j, hj, e⟩ := List.mem_take_iff_getElem.1 hx
  obtain ⟨⟨_, hb⟩, -⟩ := hT.2.2.2.2 k hk
  by_cases h0 : ts[k].name.size = 0
  · rw [nodeB_tx h0, Bool.and_eq_true] at hb
    have := of_decide_eq_true hb.1
    omega
  · rw [nodeB_el h0, Bool.and_eq_true, Bool.and_eq_true] at hb
    have ho : AttrsOk ts[k].attrs := by
      by_cases q : AttrsOk ts[k].attrs
      · exact q
      · rw [attrsB_f q] at hb; cases hb.2.1
    subst e
    have := ho.2.2 i j hi (by omega) hi
    rw [hn] at this
    exact this

/-- What is found is an attr of that name. -/
theorem id_tree {ts : List Tk} {k : Nat} {v : ByteArray} (hk : k < ts.length) (h : idAt ts k = some v) : ∃ (i : Nat) (hi : i < ts[k].attrs.length), ts[k].attrs[i].name = idS ∧ ts[k].attrs[i].value = v := by
  rw [idAt_at hk] at h
  unfold valF at h
  rw [Option.map_eq_some_iff] at h
  obtain ⟨x, hx, e⟩ := h
  obtain ⟨i, hi, ei⟩ := List.getElem_of_mem (List.mem_of_find?_eq_some hx)
  have h2 := List.find?_some hx
  subst ei
  exact ⟨i, hi, by simpa using h2, e⟩

end Go.Proofs.YtcjeodgfpnecgaaGreatDoor

namespace Go.Proofs.YtcjeodgfpnecgaaGreatDoor
open Go.RowKit
set_option linter.unusedVariables false
set_option linter.unusedSimpArgs false

/-- A sign that may stand in a word. -/
def inWB (c : Int) : Bool := (decide (97 ≤ c) && decide (c ≤ 122)) || (decide (65 ≤ c) && decide (c ≤ 90)) || (decide (48 ≤ c) && decide (c ≤ 57)) || decide (c = 46) || decide (c = 64)

theorem inWB_all : ∀ n : Fin 256, inB wordLS (UInt8.ofNat n.val) = inWB (n.val : Int) := by decide +kernel

theorem inWB_is (c : UInt8) : inB wordLS c = inWB c.toNat := by
  have h := inWB_all ⟨c.toNat, c.toNat_lt⟩
  have e : UInt8.ofNat c.toNat = c := by simp
  rw [e] at h
  exact h

set_option maxHeartbeats 1000000 in
theorem cInWord (c : Int) (w : World) (h0 : 0 ≤ c) (h1 : c ≤ 255) :
    Calls Tryz.prog 96 #[.int .u8 c] w fun e w' => e = .returned (.bool (inWB c)) ∧ w' = w := by
  go_enter Tryz.func96, Tryz.ntmps96
  go_wp2_with (first | (go_at_call 108; refine (c__impl_sign__letter _ _ h0 h1).mono ?_; rintro e w' ⟨rfl, rfl⟩) | (go_at_call 105; refine (cDigit _ _ h0 h1).mono ?_; rintro e w' ⟨rfl, rfl⟩))
  all_goals go_ret
  all_goals exact ⟨ret_bool (by rw [Bool.eq_iff_iff]; simp_all [inWB, letB]; try omega), rfl⟩

/-- All signs may stand in a word. -/
def allWd (l : List UInt8) : Bool := l.all fun c => inWB c.toNat

theorem allWd_is (l : List UInt8) : (l.all fun c => wordLS.data.toList.any fun d => decide (d = c)) = allWd l := by
  unfold allWd
  congr 1
  funext c
  exact inWB_is c

theorem allWd_snoc (s : ByteArray) (k : Nat) (h : k < s.size) : allWd (s.data.toList.take (k + 1)) = (allWd (s.data.toList.take k) && inWB s[k].toNat) := by
  unfold allWd
  rw [take_snoc s k h, List.all_append]
  simp

theorem allWd_no (s : ByteArray) (k : Nat) (h : k < s.size) (hc : inWB s[k].toNat = false) : allWd s.data.toList = false := by
  cases hA : allWd s.data.toList with
  | false => rfl
  | true =>
    have := List.all_eq_true.1 hA s[k] (List.getElem_mem _)
    rw [hc] at this
    cases this

set_option maxHeartbeats 1000000 in
theorem cAllWord (s : ByteArray) (w : World) (hs : s.size ≤ 1048576) :
    Calls Tryz.prog 87 #[.string s, .func (.func 96) #[] #[]] w fun e w' => e = .returned (.bool (allWd s.data.toList)) ∧ w' = w := by
  go_enter Tryz.func87, Tryz.ntmps87
  go_wp2
  go_loop [8] (fun i => ∃ k : Nat, k ≤ s.size ∧ i = .int .i64 k ∧ Hid (allWd (s.data.toList.take k) = true)) (fun i => s.size - (intOf i).toNat)
  case atStart => exact ⟨0, Nat.zero_le _, rfl, rfl⟩
  case round =>
    obtain ⟨k, hk, rfl, HP⟩ := hrel
    by_cases hlt : k < s.size
    · have hb : (s[k].toNat : Int) ≤ 255 := by have := s[k].toNat_lt; omega
      cases hc : inWB s[k].toNat
      · go_wp2_with (go_at_call 96; refine (cInWord _ _ (by omega) hb).mono ?_; rintro e w' ⟨rfl, rfl⟩)
        go_ret
        exact ⟨ret_bool (allWd_no s k hlt hc).symm, rfl⟩
      · go_wp2_with (go_at_call 96; refine (cInWord _ _ (by omega) hb).mono ?_; rintro e w' ⟨rfl, rfl⟩)
        go_round
        case rel => exact ⟨k + 1, by omega, by go_num, by show allWd _ = true; rw [allWd_snoc s k hlt, HP.out, hc]; rfl⟩
        case measure => simp [intOf]; omega
    · go_wp2
      go_ret
      exact ⟨ret_bool (by rw [← take_full s k hlt]; exact HP.out.symm), rfl⟩

theorem wordB_is (s : ByteArray) : wordB s = (decide (1 ≤ s.size) && (decide (s.size ≤ 20) && allWd s.data.toList)) := by
  unfold wordB ofB
  rw [allWd_is, Bool.and_comm (allWd s.data.toList)]
  have e : (!decide (s.size = 0)) = decide (1 ≤ s.size) := by
    by_cases h : s.size = 0
    · rw [decide_eq_true h, decide_eq_false (show ¬ 1 ≤ s.size by omega)]; rfl
    · rw [decide_eq_false h, decide_eq_true (show 1 ≤ s.size by omega)]; rfl
  rw [e]

set_option maxHeartbeats 2000000 in
theorem cWordOk (s : ByteArray) (w : World) (hs : s.size ≤ 1048576) :
    Calls Tryz.prog 73 #[.string s] w fun e w' => e = .returned (.bool (wordB s)) ∧ w' = w := by
  have C := hid (fun wx => cAllWord s wx hs)
  rw [wordB_is]
  generalize allWd s.data.toList = M at *
  by_cases h1 : 1 ≤ s.size
  · rw [decide_eq_true h1]
    have h1' : (1 : Int) ≤ (s.size : Int) := by omega
    by_cases h12 : s.size ≤ 20
    · rw [decide_eq_true h12]
      have h12' : (s.size : Int) ≤ 20 := by omega
      go_enter Tryz.func73, Tryz.ntmps73
      go_wp2_with fail
      refine (C.out _).mono ?_
      rintro e w1 ⟨rfl, rfl⟩
      go_wp2_with fail
      go_ret
      exact ⟨by simp, rfl⟩
    · rw [decide_eq_false h12]
      have h12' : ¬ (s.size : Int) ≤ 20 := by omega
      go_enter Tryz.func73, Tryz.ntmps73
      go_wp2_with fail
      go_ret
      exact ⟨by simp, rfl⟩
  · rw [decide_eq_false h1]
    have h1' : ¬ (1 : Int) ≤ (s.size : Int) := by omega
    go_enter Tryz.func73, Tryz.ntmps73
    go_wp2_with fail
    go_ret
    exact ⟨by simp, rfl⟩

theorem cGap (c : Int) (w : World) (h0 : 0 ≤ c) (h1 : c ≤ 255) :
    Calls Tryz.prog 109 #[.int .u8 c] w fun e w' => e = .returned (.bool (gapB c)) ∧ w' = w := by
  go_enter Tryz.func109, Tryz.ntmps109
  go_wp2
  all_goals go_ret
  all_goals exact ⟨ret_boolE (by rw [Bool.eq_iff_iff]; simp [gapB]; try omega), rfl⟩

set_option maxHeartbeats 4000000 in
theorem cFactValue (s : ByteArray) (w : World) (hs : s.size ≤ 1048576) :
    Calls Tryz.prog 97 #[.string s] w fun e w' => e = .returned (.bool (fvalB s)) ∧ w' = w := by
  have C := hid (fun wx => c_impl_PlainOk s wx (by unfold maxLen; omega))
  by_cases h1 : 1 ≤ s.size
  · have g1 : decide ((s.size : Int) < 1) = false := by simp; omega
    by_cases h30 : s.size ≤ 30
    · have g2 : decide ((30 : Int) < (s.size : Int)) = false := by simp; omega
      obtain ⟨m, hm⟩ : ∃ m, s.size = m + 1 := ⟨s.size - 1, by omega⟩
      have hml : m < s.size := by omega
      have h0l : 0 < s.size := by omega
      rw [fval_is hm h30 h0l hml]
      have hms : (s.size : Int) - 1 = (m : Int) := by omega
      have r0 : ((s[0]'h0l).toNat : Int) ≤ 255 := by have := (s[0]'h0l).toNat_lt; omega
      have r1 : ((s[m]'hml).toNat : Int) ≤ 255 := by have := (s[m]'hml).toNat_lt; omega
      have CB0 := hid (fun wx => cGap ((s[0]'h0l).toNat : Int) wx (by omega) r0)
      have CB1 := hid (fun wx => cGap ((s[m]'hml).toNat : Int) wx (by omega) r1)
      generalize plainL s.data.toList = p1 at *
      obtain ⟨g3, hg3⟩ : ∃ g0, gapB ((s[0]'h0l).toNat : Int) = g0 := ⟨_, rfl⟩
      obtain ⟨g4, hg4⟩ : ∃ g1, gapB ((s[m]'hml).toNat : Int) = g1 := ⟨_, rfl⟩
      rw [hg3, hg4]
      rw [hg3] at CB0
      rw [hg4] at CB1
      clear hg3 hg4 r0 r1 hm
      go_enter Tryz.func97, Tryz.ntmps97
      go_wp2_with fail
      refine (C.out _).mono ?_
      rintro e w1 ⟨rfl, rfl⟩
      cases p1 with
      | false =>
        go_wp2_with fail
        go_ret
        exact ⟨rfl, rfl⟩
      | true =>
      go_wp2_with fail
      refine (CB0.out _).mono ?_
      rintro e w1 ⟨rfl, rfl⟩
      cases g3 with
      | true =>
        go_wp2_with fail
        go_ret
        exact ⟨rfl, rfl⟩
      | false =>
      go_wp2_with fail
      refine (CB1.out _).mono ?_
      rintro e w1 ⟨rfl, rfl⟩
      go_wp2_with fail
      go_ret
      exact ⟨by simp, rfl⟩
    · have g2 : decide ((30 : Int) < (s.size : Int)) = true := by simp; omega
      rw [fval_no (by omega)]
      go_enter Tryz.func97, Tryz.ntmps97
      go_wp2_with fail
      go_ret
      exact ⟨rfl, rfl⟩
  · have g1 : decide ((s.size : Int) < 1) = true := by simp; omega
    rw [fval_no (by omega)]
    go_enter Tryz.func97, Tryz.ntmps97
    go_wp2_with fail
    go_ret
    exact ⟨rfl, rfl⟩

/-- Where the first of that name stands, told of the facts ahead. -/
theorem idx_first {l : List At} {i : Nat} (hi : i < l.length) {r : Int} (h : IdxIs l l[i].name r) : (r = (i : Int) ∧ ∀ k, ∀ hk : k < l.length, k < i → ¬ l[k].name = l[i].name) ∨ (¬ r = (i : Int) ∧ ∃ k, ∃ hk : k < l.length, k < i ∧ l[k].name = l[i].name) := by
  rcases h with ⟨rfl, h⟩ | ⟨j, hj, rfl, h1, h2⟩
  · exact absurd rfl (h _ (List.getElem_mem hi))
  · have hji : ¬ i < j := fun h => h2 l[i] (by rw [List.mem_take_iff_getElem]; exact ⟨i, by omega, rfl⟩) rfl
    rcases Nat.lt_or_eq_of_le (Nat.le_of_not_lt hji) with h' | h'
    · exact .inr ⟨by omega, j, hj, h', h1⟩
    · subst h'
      refine .inl ⟨rfl, fun k hk hlt => h2 _ ?_⟩
      rw [List.mem_take_iff_getElem]
      exact ⟨k, by omega, rfl⟩

set_option maxRecDepth 8000 in
set_option maxHeartbeats 8000000 in
theorem cFactsOk (a : Option Addr) (cap : Nat) (L : List At) (w : World) (hR : AtRow w a L) (hn : L.length ≤ 1048576) (hz : AtSz 1048576 L) :
    Calls Tryz.prog 75 #[.slice a L.length cap] w fun e w' => e = .returned (.bool (factsB L)) ∧ Below w.heap.size w w' := by
  have HR := hid hR
  have HZ := hid hz
  obtain ⟨FB, hFB⟩ : ∃ FB, factsB L = FB := ⟨_, rfl⟩
  have HFB := hid hFB
  rw [hFB]
  clear hR hz hFB
  obtain ⟨n, hnn⟩ : ∃ n, L.length = n := ⟨_, rfl⟩
  have HN := hid hnn
  rw [hnn] at hn ⊢
  clear hnn
  by_cases h4 : n ≤ 4
  case neg =>
    have HE := hid (show FB = false by rw [← HFB.out]; exact factsB_4 (by rw [HN.out]; omega))
    have g4 : decide ((4 : Int) < (n : Int)) = true := by simp; omega
    go_enter Tryz.func75, Tryz.ntmps75
    go_wp2_with fail
    go_ret
    exact ⟨by rw [HE.out]; rfl, Below.refl _ _⟩
  have g4 : decide ((4 : Int) < (n : Int)) = false := by simp; omega
  go_enter Tryz.func75, Tryz.ntmps75
  go_wp2_with fail
  go_loopw [10] (fun v wr => ∃ i : Nat, v = .int .i64 (i : Int) ∧ i ≤ n ∧ Hid (FactsP L i) ∧ Hid (Below w.heap.size w wr)) (fun v _ => n - (intOf v).toNat)
  case atStart => exact ⟨0, rfl, Nat.zero_le _, factsP_zero L, Below.refl _ _⟩
  case round =>
    obtain ⟨i, rfl, hin, HP, HB⟩ := hrel
    by_cases hlt : i < n
    · have his : i < L.length := by rw [HN.out]; exact hlt
      have hit : (i : Int) < (n : Int) := by omega
      obtain ⟨b, o, rfl, hb, c1, c2⟩ := HR.out.below HB.out i his
      have hz1 := HZ.out _ (List.getElem_mem his)
      have CN := hid (fun wx => cWordOk L[i].name wx hz1.1)
      have CV := hid (fun wx => cFactValue L[i].value wx hz1.2)
      have CA := hid (fun wx (h : Below w.heap.size w wx) => cAttrAt (some ⟨b, o, none⟩) cap L L[i].name wx (HR.out.below h) HZ.out (by rw [HN.out]; exact hn) hz1.1)
      have HID := hid (fun r (h : IdxIs L L[i].name r) => idx_first his h)
      have HBAD : Hid (wordB L[i].name = false ∨ fvalB L[i].value = false ∨ (∃ k, ∃ hk : k < L.length, k < i ∧ L[k].name = L[i].name) → FB = false) := fun h => by
        rw [← HFB.out]
        refine factsB_f his (fun hP => ?_)
        rcases h with h | h | ⟨k, hk, hki, h⟩
        · rw [hP.1] at h; cases h
        · rw [hP.2.1] at h; cases h
        · exact hP.2.2 k hki h
      have HGO : Hid (wordB L[i].name = true → fvalB L[i].value = true → (∀ k, ∀ hk : k < L.length, k < i → ¬ L[k].name = L[i].name) → FactsP L (i + 1)) := fun h1 h2 h3 => factsP_next HP.out his ⟨h1, h2, fun k hk => h3 k _ hk⟩
      clear hz1
      generalize L[i].name = nm at *
      generalize L[i].value = vl at *
      rw [HN.out] at CA
      clear his
      have HBX := hid ((Below.refl wr.heap.size wr).alloc (Nat.le_refl _) (.cells #[.string nm, .string vl] 58))
      have bx := box_two wr (.string nm) (.string vl) 58
      obtain ⟨w0, hw0⟩ : ∃ w0, wr.alloc (.cells #[.string nm, .string vl] 58) = w0 := ⟨_, rfl⟩
      rw [hw0] at HBX bx
      obtain ⟨bx1, bx2, bx3⟩ := bx
      have HB0 := hid (bb HB.out HBX.out)
      have HBX3 := hid bx3
      clear bx3
      cases hwd : wordB nm with
      | false =>
        have HE := hid (HBAD.out (.inl hwd))
        rw [hwd] at CN
        clear hwd
        go_wp2_with fail
        refine (CN.out _).mono ?_
        rintro e w1 ⟨rfl, rfl⟩
        go_wp2_with fail
        go_ret
        exact ⟨by rw [HE.out]; rfl, HB0.out⟩
      | true =>
      have HWD := hid hwd
      rw [hwd] at CN
      clear hwd
      cases hvd : fvalB vl with
      | false =>
        have HE := hid (HBAD.out (.inr (.inl hvd)))
        rw [hvd] at CV
        clear hvd
        go_wp2_with fail
        refine (CN.out _).mono ?_
        rintro e w1 ⟨rfl, rfl⟩
        go_wp2_with fail
        refine (CV.out _).mono ?_
        rintro e w1 ⟨rfl, rfl⟩
        go_wp2_with fail
        go_ret
        exact ⟨by rw [HE.out]; rfl, HB0.out⟩
      | true =>
      have HVD := hid hvd
      rw [hvd] at CV
      clear hvd
      go_wp2_with fail
      refine (CN.out _).mono ?_
      rintro e w1 ⟨rfl, rfl⟩
      go_wp2_with fail
      refine (CV.out _).mono ?_
      rintro e w1 ⟨rfl, rfl⟩
      go_wp2_with fail
      refine (CA.out _ HB0.out).mono ?_
      rintro e w2 ⟨r, rfl, hr, hb2⟩
      have HB2 := hid (bb HB0.out hb2)
      have HR2 := hid (HID.out r hr)
      clear hb2 hr hw0 bx1 bx2 c1 c2
      rcases HR2.out with ⟨rfl, h⟩ | ⟨h0, h⟩
      · have HF1 := hid (HGO.out HWD.out HVD.out h)
        have e1 : ((i : Int) == (i : Int)) = true := by simp
        clear h
        go_wp2_with fail
        go_roundw
        case rel => exact ⟨i + 1, by go_num, by omega, HF1.out, HB2.out⟩
        case measure => simp [intOf]; omega
      · have HE := hid (HBAD.out (.inr (.inr h)))
        have e1 : (r == (i : Int)) = false := by simp; exact h0
        have e2 : (r != (i : Int)) = true := by simp; exact h0
        clear h h0
        go_wp2_with fail
        go_ret
        exact ⟨by rw [HE.out]; rfl, HB2.out⟩
    · have hie : i = n := by omega
      subst hie
      have HE := hid (show FB = true from by rw [← HFB.out]; exact factsB_t (by rw [HN.out]; exact h4) (by rw [HN.out]; exact HP.out))
      go_wp2_with fail
      go_ret
      exact ⟨by rw [HE.out]; rfl, HB.out⟩

end Go.Proofs.YtcjeodgfpnecgaaGreatDoor

namespace Go.Proofs.YtcjeodgfpnecgaaGreatDoor
open Go.RowKit
set_option linter.unusedVariables false
set_option linter.unusedSimpArgs false

set_option maxRecDepth 8000 in
set_option maxHeartbeats 8000000 in
theorem cClaimOkI (c : Cm) (a : Option Addr) (cap : Nat) (w : World) (hR : AtRow w a c.facts) (hz : CmSz 1048576 c) :
    Calls Tryz.prog 47 #[cmV c a cap] w fun e w' => e = .returned (.bool (claimB c)) ∧ Below w.heap.size w w' := by
  obtain ⟨z1, z2, z3, z4, z5, z6, z7⟩ := hz
  have C1 := hid (fun wx => cIdOk c.id wx z1)
  have C2 := hid (fun wx => cWordOk c.iss wx z2)
  have C3 := hid (fun wx => cWordOk c.sub wx z3)
  have C4 := hid (fun wx => cWordOk c.whom wx z4)
  have C5 := hid (fun wx => cIdOk c.ans wx z5)
  have C6 := hid (fun wx => cTimeI c.frm wx)
  have C7 := hid (fun wx => cTimeI c.til wx)
  have C8 := hid (fun wx (h : Below w.heap.size w wx) => cFactsOk a cap c.facts wx (hR.below h) z6 z7)
  have E := empty_is c.ans
  have HX := hid (ClBox.new w c (.slice a c.facts.length cap) 31)
  have HB0 := hid ((Below.refl w.heap.size w).alloc (Nat.le_refl _) (.cells #[.string c.id, .string c.iss, .string c.sub, .int .i64 c.frm, .int .i64 c.til, .string c.whom, .string c.ans, .slice a c.facts.length cap] 31))
  unfold cmV claimB
  change Hid (∀ wx, Calls Tryz.prog 74 #[.int .i64 c.frm] wx fun e w' => e = .returned (.bool (timeB c.frm)) ∧ w' = wx) at C6
  change Hid (∀ wx, Calls Tryz.prog 74 #[.int .i64 c.til] wx fun e w' => e = .returned (.bool (timeB c.til)) ∧ w' = wx) at C7
  obtain ⟨w0, hw0⟩ : ∃ w0, w.alloc (.cells #[.string c.id, .string c.iss, .string c.sub, .int .i64 c.frm, .int .i64 c.til, .string c.whom, .string c.ans, .slice a c.facts.length cap] 31) = w0 := ⟨_, rfl⟩
  rw [hw0] at HX HB0
  clear hR z1 z2 z3 z4 z5 z7
  obtain ⟨B, hB⟩ : ∃ B, w.heap.size = B := ⟨_, rfl⟩
  rw [hB] at HX
  obtain ⟨f0, f1, f2, f3, f4, f5, f6, f7⟩ := And.intro HX.out.c0 (And.intro HX.out.c1 (And.intro HX.out.c2 (And.intro HX.out.c3 (And.intro HX.out.c4 (And.intro HX.out.c5 (And.intro HX.out.c6 HX.out.c7))))))
  generalize idOk c.id = b1 at *
  generalize wordB c.iss = b2 at *
  generalize wordB c.sub = b3 at *
  generalize wordB c.whom = b4 at *
  generalize idOk c.ans = b5 at *
  generalize decide (c.ans.size = 0) = b0 at *
  generalize timeB c.frm = b6 at *
  generalize timeB c.til = b7 at *
  generalize factsB c.facts = b8 at *
  generalize c.facts.length = n at *
  go_enter Tryz.func47, Tryz.ntmps47
  go_wp2_with fail
  refine (C1.out _).mono ?_
  rintro e w1 ⟨rfl, rfl⟩
  cases b1 with
  | false =>
    go_wp2_with fail
    go_ret
    exact ⟨by simp, hB ▸ HB0.out⟩
  | true =>
  go_wp2_with fail
  refine (C2.out _).mono ?_
  rintro e w1 ⟨rfl, rfl⟩
  cases b2 with
  | false =>
    go_wp2_with fail
    go_ret
    exact ⟨by simp, hB ▸ HB0.out⟩
  | true =>
  go_wp2_with fail
  refine (C3.out _).mono ?_
  rintro e w1 ⟨rfl, rfl⟩
  cases b3 with
  | false =>
    go_wp2_with fail
    go_ret
    exact ⟨by simp, hB ▸ HB0.out⟩
  | true =>
  go_wp2_with fail
  refine (C4.out _).mono ?_
  rintro e w1 ⟨rfl, rfl⟩
  cases b4 with
  | false =>
    go_wp2_with fail
    go_ret
    exact ⟨by simp, hB ▸ HB0.out⟩
  | true =>
  go_wp2_with fail
  refine (C6.out _).mono ?_
  rintro e w1 ⟨rfl, rfl⟩
  cases b6 with
  | false =>
    go_wp2_with fail
    go_ret
    exact ⟨by simp, hB ▸ HB0.out⟩
  | true =>
  go_wp2_with fail
  refine (C7.out _).mono ?_
  rintro e w1 ⟨rfl, rfl⟩
  cases b7 with
  | false =>
    go_wp2_with fail
    go_ret
    exact ⟨by simp, hB ▸ HB0.out⟩
  | true =>
  cases b0 with
  | true =>
    go_wp2_with fail
    refine (C8.out _ HB0.out).mono ?_
    rintro e w2 ⟨rfl, hb2⟩
    have HB2 := hid (bb HB0.out hb2)
    clear hb2 hw0 f0 f1 f2 f3 f4 f5 f6 f7
    go_wp2_with fail
    go_ret
    exact ⟨by simp, hB ▸ HB2.out⟩
  | false =>
    go_wp2_with fail
    refine (C5.out _).mono ?_
    rintro e w1 ⟨rfl, rfl⟩
    cases b5 with
    | false =>
      go_wp2_with fail
      go_ret
      exact ⟨by simp, hB ▸ HB0.out⟩
    | true =>
    go_wp2_with fail
    refine (C8.out _ HB0.out).mono ?_
    rintro e w2 ⟨rfl, hb2⟩
    have HB2 := hid (bb HB0.out hb2)
    clear hb2 hw0 f0 f1 f2 f3 f4 f5 f6 f7
    go_wp2_with fail
    go_ret
    exact ⟨by simp, hB ▸ HB2.out⟩

end Go.Proofs.YtcjeodgfpnecgaaGreatDoor
