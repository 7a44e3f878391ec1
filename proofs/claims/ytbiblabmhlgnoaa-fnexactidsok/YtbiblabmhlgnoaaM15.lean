/- Contract of nodeThere of the program. Declarations in the program: contracts of the signs of a meaning, of allSigns over them, declaredBy, meaningOk, declarationsOk. Identifiers in the program: plain mathematics, and the contracts of the signs of an identifier, of allSigns over them, idOk. -/
import Derived.Test.YtbiblabmhlgnoaaM14
import Derived.Test.YtbiblabmhlgnoaaM9
import Derived.Test.YtbiblabmhlgnoaaM11
namespace Go.Proofs.Ytbiblabmhlgnoaa
open Go.RowKit
set_option linter.unusedVariables false
set_option linter.unusedSimpArgs false

set_option maxHeartbeats 2000000 in
theorem cThere (a : Option Addr) (cap : Nat) (ts : List Tk) (x : Int) (w : World) (hR : TkRow w a ts) (hn : ts.length ≤ 1048576) (hz : TksSz 1048576 ts) :
    Calls Try.prog 40 #[.slice a ts.length cap, .int .i64 x] w fun e w' => e = .returned (.bool (hasB ts x)) ∧ Below w.heap.size w w' := by
  have C := hid (cTreeOkI a cap ts w hR hn hz)
  obtain ⟨n, hnn⟩ : ∃ n, ts.length = n := ⟨_, rfl⟩
  rw [hasB_eq hnn]
  rw [hnn] at C ⊢
  clear hR hz hn hnn
  generalize treeB ts = B at *
  cases q1 : decide (0 ≤ x)
  · rw [Bool.false_and, Bool.and_false]
    go_enter Try.func40, Try.ntmps40
    go_wp2_with fail
    go_ret
    exact ⟨rfl, Below.refl _ _⟩
  · cases q2 : decide (x < (n : Int))
    · rw [Bool.and_false, Bool.and_false]
      go_enter Try.func40, Try.ntmps40
      go_wp2_with fail
      go_ret
      exact ⟨rfl, Below.refl _ _⟩
    · rw [Bool.and_true, Bool.and_true]
      go_enter Try.func40, Try.ntmps40
      go_wp2_with fail
      refine C.out.mono ?_
      rintro e w1 ⟨rfl, hb1⟩
      have HB1 := hid hb1
      clear hb1
      go_wp2_with fail
      go_ret
      exact ⟨rfl, HB1.out⟩

end Go.Proofs.Ytbiblabmhlgnoaa

namespace Go.Proofs.Ytbiblabmhlgnoaa
open Go.RowKit
set_option linter.unusedVariables false
set_option linter.unusedSimpArgs false

/-- A sign that may stand in a meaning. -/
def inMB (c : Int) : Bool := (decide (97 ≤ c) && decide (c ≤ 122)) || (decide (48 ≤ c) && decide (c ≤ 57)) || decide (c = 47) || decide (c = 46)

theorem inMB_all : ∀ n : Fin 256, inB sgnS (UInt8.ofNat n.val) = inMB (n.val : Int) := by decide +kernel

theorem inMB_is (c : UInt8) : inB sgnS c = inMB c.toNat := by
  have h := inMB_all ⟨c.toNat, c.toNat_lt⟩
  have e : UInt8.ofNat c.toNat = c := by simp
  rw [e] at h
  exact h

theorem cDigit (c : Int) (w : World) (h0 : 0 ≤ c) (h1 : c ≤ 255) :
    Calls Try.prog 106 #[.int .u8 c] w fun e w' => e = .returned (.bool (decide (48 ≤ c) && decide (c ≤ 57))) ∧ w' = w := by
  go_enter Try.func106, Try.ntmps106
  go_wp2
  all_goals go_ret
  all_goals exact ⟨ret_bool (by rw [Bool.eq_iff_iff]; simp; try omega), rfl⟩

set_option maxHeartbeats 1000000 in
theorem cInMeaning (c : Int) (w : World) (h0 : 0 ≤ c) (h1 : c ≤ 255) :
    Calls Try.prog 121 #[.int .u8 c] w fun e w' => e = .returned (.bool (inMB c)) ∧ w' = w := by
  go_enter Try.func121, Try.ntmps121
  go_wp2_with (go_at_call 106; refine (cDigit _ _ h0 h1).mono ?_; rintro e w' ⟨rfl, rfl⟩)
  all_goals go_ret
  all_goals exact ⟨ret_bool (by rw [Bool.eq_iff_iff]; simp [inMB]; try omega), rfl⟩

/-- All signs may stand in a meaning. -/
def allM (l : List UInt8) : Bool := l.all fun c => inMB c.toNat

theorem allM_is (l : List UInt8) : (l.all fun c => sgnS.data.toList.any fun d => decide (d = c)) = allM l := by
  unfold allM
  congr 1
  funext c
  exact inMB_is c

theorem allM_snoc (s : ByteArray) (k : Nat) (h : k < s.size) : allM (s.data.toList.take (k + 1)) = (allM (s.data.toList.take k) && inMB s[k].toNat) := by
  unfold allM
  rw [take_snoc s k h, List.all_append]
  simp

theorem allM_no (s : ByteArray) (k : Nat) (h : k < s.size) (hc : inMB s[k].toNat = false) : allM s.data.toList = false := by
  cases hA : allM s.data.toList with
  | false => rfl
  | true =>
    have := List.all_eq_true.1 hA s[k] (List.getElem_mem _)
    rw [hc] at this
    cases this

set_option maxHeartbeats 1000000 in
theorem cAllMeaning (s : ByteArray) (w : World) (hs : s.size ≤ 1048576) :
    Calls Try.prog 78 #[.string s, .func (.func 121) #[] #[]] w fun e w' => e = .returned (.bool (allM s.data.toList)) ∧ w' = w := by
  go_enter Try.func78, Try.ntmps78
  go_wp2
  go_loop [8] (fun i => ∃ k : Nat, k ≤ s.size ∧ i = .int .i64 k ∧ Hid (allM (s.data.toList.take k) = true)) (fun i => s.size - (intOf i).toNat)
  case atStart => exact ⟨0, Nat.zero_le _, rfl, rfl⟩
  case round =>
    obtain ⟨k, hk, rfl, HP⟩ := hrel
    by_cases hlt : k < s.size
    · have hb : (s[k].toNat : Int) ≤ 255 := by have := s[k].toNat_lt; omega
      cases hc : inMB s[k].toNat
      · go_wp2_with (go_at_call 121; refine (cInMeaning _ _ (by omega) hb).mono ?_; rintro e w' ⟨rfl, rfl⟩)
        go_ret
        exact ⟨ret_bool (allM_no s k hlt hc).symm, rfl⟩
      · go_wp2_with (go_at_call 121; refine (cInMeaning _ _ (by omega) hb).mono ?_; rintro e w' ⟨rfl, rfl⟩)
        go_round
        case rel => exact ⟨k + 1, by omega, by go_num, by show allM _ = true; rw [allM_snoc s k hlt, HP.out, hc]; rfl⟩
        case measure => simp [intOf]; omega
    · go_wp2
      go_ret
      exact ⟨ret_bool (by rw [← take_full s k hlt]; exact HP.out.symm), rfl⟩

/-- What a declaration of this prefix says is right. -/
def saysB (p v : ByteArray) : Bool := ofB sgnS 20 v && (decide (p.size = 0) || !decide (v.size = 0))

set_option maxHeartbeats 2000000 in
theorem cMeaningOk (p v : ByteArray) (w : World) (hp : p.size ≤ 1048576) (hv : v.size ≤ 1048576) :
    Calls Try.prog 113 #[.string p, .string v] w fun e w' => e = .returned (.bool (saysB p v)) ∧ w' = w := by
  have C := hid (fun wx => cAllMeaning v wx hv)
  have e1 : saysB p v = ((decide (v.size ≤ 20) && allM v.data.toList) && (decide (p.size = 0) || !decide (v.size = 0))) := by
    unfold saysB ofB
    rw [allM_is, Bool.and_comm (allM v.data.toList)]
  rw [e1]
  have EP := empty_is p
  have EV := empty_is v
  clear e1
  generalize allM v.data.toList = M at *
  generalize decide (p.size = 0) = D at *
  generalize decide (v.size = 0) = F at *
  by_cases h20 : v.size ≤ 20
  · rw [decide_eq_true h20]
    have h20' : (v.size : Int) ≤ 20 := by omega
    cases D
    · cases F
      · go_enter Try.func113, Try.ntmps113
        go_wp2_with fail
        refine (C.out _).mono ?_
        rintro e w1 ⟨rfl, rfl⟩
        go_wp2_with fail
        go_ret
        exact ⟨by simp, rfl⟩
      · go_enter Try.func113, Try.ntmps113
        go_wp2_with fail
        go_ret
        exact ⟨by simp, rfl⟩
    · go_enter Try.func113, Try.ntmps113
      go_wp2_with fail
      refine (C.out _).mono ?_
      rintro e w1 ⟨rfl, rfl⟩
      go_wp2_with fail
      go_ret
      exact ⟨by simp, rfl⟩
  · rw [decide_eq_false h20]
    have h20' : ¬ (v.size : Int) ≤ 20 := by omega
    cases D
    · cases F
      · go_enter Try.func113, Try.ntmps113
        go_wp2_with fail
        go_ret
        exact ⟨by simp, rfl⟩
      · go_enter Try.func113, Try.ntmps113
        go_wp2_with fail
        go_ret
        exact ⟨by simp, rfl⟩
    · go_enter Try.func113, Try.ntmps113
      go_wp2_with fail
      go_ret
      exact ⟨by simp, rfl⟩

theorem cPartsI (s : ByteArray) (w : World) (h0 : s.size ≤ 1048576) :
    Calls Try.prog 67 #[.string s] w fun e w' => e = .returned (.tuple #[.string (preS s), .string (locS s)]) ∧ Below w.heap.size w w' := c_impl_Parts s w h0

set_option maxHeartbeats 2000000 in
theorem cDeclaredBy (x : At) (w : World) (hz : x.name.size ≤ 1048576) :
    Calls Try.prog 112 #[.agg #[.string x.name, .string x.value]] w fun e w' => e = .returned (.tuple #[.string ((declF x).getD ⟨#[]⟩), .bool (declF x).isSome]) ∧ Below w.heap.size w w' := by
  have HB := hid ((Below.refl w.heap.size w).alloc (Nat.le_refl _) (.cells #[.string x.name, .string x.value] 66))
  by_cases h1 : x.name = nsS
  · have HE := hid (show declF x = some ⟨#[]⟩ by unfold declF; rw [if_pos h1])
    rw [HE.out]
    have hd : (x.name.toList == [110, 115]) = true := by rw [ns_beq]; exact decide_eq_true h1
    clear h1
    generalize x.name = n at *
    generalize x.value = v at *
    go_enter Try.func112, Try.ntmps112
    go_wp2_with fail
    go_ret2
    exact ⟨rfl, HB.out⟩
  · have hd : (x.name.toList == [110, 115]) = false := by rw [ns_beq]; exact decide_eq_false h1
    have C := hid (fun wx => cPartsI x.name wx hz)
    by_cases h2 : preS x.name = nsS
    · have HE := hid (show declF x = some (locS x.name) by unfold declF; rw [if_neg h1, if_pos h2])
      rw [HE.out]
      have hd2 : ((preS x.name).toList == [110, 115]) = true := by rw [ns_beq]; exact decide_eq_true h2
      clear h1 h2 HE
      generalize preS x.name = P at *
      generalize locS x.name = L at *
      generalize x.name = n at *
      generalize x.value = v at *
      go_enter Try.func112, Try.ntmps112
      go_wp2_with fail
      refine (C.out _).mono ?_
      rintro e w1 ⟨rfl, hb1⟩
      have HB1 := hid (bb HB.out hb1)
      clear hb1 C
      go_wp2_with fail
      go_ret2
      exact ⟨rfl, HB1.out⟩
    · have HE := hid (show declF x = none by unfold declF; rw [if_neg h1, if_neg h2])
      rw [HE.out]
      have hd2 : ((preS x.name).toList == [110, 115]) = false := by rw [ns_beq]; exact decide_eq_false h2
      clear h1 h2 HE
      generalize preS x.name = P at *
      generalize locS x.name = L at *
      generalize x.name = n at *
      generalize x.value = v at *
      go_enter Try.func112, Try.ntmps112
      go_wp2_with fail
      refine (C.out _).mono ?_
      rintro e w1 ⟨rfl, hb1⟩
      have HB1 := hid (bb HB.out hb1)
      clear hb1 C
      go_wp2_with fail
      go_ret2
      exact ⟨rfl, HB1.out⟩

theorem declF_sz {x : At} (hz : x.name.size ≤ 1048576) {p : ByteArray} (h : declF x = some p) : p.size ≤ 1048576 := by
  unfold declF at h
  split at h
  · cases h; exact Nat.zero_le _
  · split at h
    · cases h; exact locS_sz hz
    · cases h

set_option maxRecDepth 4000 in
set_option maxHeartbeats 2000000 in
theorem cDeclsOk (a : Option Addr) (cap : Nat) (l : List At) (w : World) (hR : AtRow w a l) (hz : AtSz 1048576 l) (hn : l.length ≤ 1048576) :
    Calls Try.prog 94 #[.slice a l.length cap] w fun e w' => e = .returned (.bool (l.all rightB)) ∧ Below w.heap.size w w' := by
  obtain ⟨V, hV⟩ : ∃ V, l.all rightB = V := ⟨_, rfl⟩
  have HV := hid hV
  rw [hV]
  clear hV
  have HR := hid hR
  have HZ := hid hz
  clear hR hz
  obtain ⟨n, hnn⟩ : ∃ n, l.length = n := ⟨_, rfl⟩
  have HN := hid hnn
  rw [hnn] at hn ⊢
  clear hnn
  go_enter Try.func94, Try.ntmps94
  go_wp2_with fail
  go_loopw [9] (fun k wr => ∃ i : Nat, k = .int .i64 (i : Int) ∧ i ≤ n ∧ Hid ((l.take i).all rightB = true) ∧ Hid (Below w.heap.size w wr)) (fun k _ => n - (intOf k).toNat)
  case atStart => exact ⟨0, rfl, Nat.zero_le _, rfl, Below.refl _ _⟩
  case round =>
    obtain ⟨i, rfl, hi, HO, HB⟩ := hrel
    by_cases hlt : i < n
    · have his : i < l.length := by rw [HN.out]; exact hlt
      obtain ⟨b, o, rfl, hb, c1, c2⟩ := HR.out.below HB.out i his
      have hin : (i : Int) < (n : Int) := by omega
      have HT := hid (take_snocN his)
      have HMEM := hid (List.getElem_mem his)
      have HS := hid (HZ.out _ (List.getElem_mem his))
      obtain ⟨y, hy⟩ : ∃ y, l[i] = y := ⟨_, rfl⟩
      rw [hy] at c1 c2 HT HS HMEM
      clear hy
      have CD := hid (fun wx => cDeclaredBy y wx HS.out.1)
      have HBX := hid (HB.out.alloc HB.out.size (.cells #[.string y.name, .string y.value] 66))
      have HBOX := hid (box_two wr (.string y.name) (.string y.value) 66)
      have HBAD := hid (show rightB y = false → V = false from fun h => by
        rw [← HV.out]
        cases hA : l.all rightB with
        | false => rfl
        | true =>
          have := List.all_eq_true.1 hA y HMEM.out
          rw [h] at this
          cases this)
      have HNX := hid (show rightB y = true → (l.take (i + 1)).all rightB = true from fun h => by rw [HT.out, List.all_append, HO.out]; simp [h])
      go_wp2_with fail
      refine (CD.out _).mono ?_
      rintro e w1 ⟨rfl, hb1⟩
      have HB1 := hid (bb HBX.out hb1)
      have d1 := (hb1.cell (p := ⟨wr.heap.size, 0, none⟩) HBOX.out.2.2).trans HBOX.out.1
      have d2 := (hb1.cell (p := ⟨wr.heap.size, 1, none⟩) HBOX.out.2.2).trans HBOX.out.2.1
      clear hb1 HBX HBOX CD c1 c2
      cases hd : declF y with
      | none =>
        have HN2 := hid (HNX.out (by unfold rightB; rw [hd]))
        clear hd
        go_wp2_with fail
        go_roundw
        case rel => exact ⟨i + 1, by go_num, by omega, HN2.out, HB1.out⟩
        case measure => simp [intOf]; omega
      | some q =>
        have CM := hid (fun wx => cMeaningOk q y.value wx (declF_sz HS.out.1 hd) HS.out.2)
        have HRI := hid (show rightB y = saysB q y.value by unfold rightB saysB; rw [hd])
        clear hd
        cases hr : rightB y with
        | false =>
          rw [← HRI.out, hr] at CM
          have HF := hid (HBAD.out hr)
          clear hr
          go_wp2_with fail
          refine (CM.out _).mono ?_
          rintro e w2 ⟨rfl, rfl⟩
          go_wp2_with fail
          go_ret
          exact ⟨by rw [HF.out]; rfl, HB1.out⟩
        | true =>
          rw [← HRI.out, hr] at CM
          have HN2 := hid (HNX.out hr)
          clear hr
          go_wp2_with fail
          refine (CM.out _).mono ?_
          rintro e w2 ⟨rfl, rfl⟩
          go_wp2_with fail
          go_roundw
          case rel => exact ⟨i + 1, by go_num, by omega, HN2.out, HB1.out⟩
          case measure => simp [intOf]; omega
    · have hie : i = n := by omega
      subst hie
      have HF := hid (show V = true by
        rw [← HV.out]
        have h := HO.out
        rw [List.take_of_length_le (by rw [HN.out]; exact Nat.le_refl _)] at h
        exact h)
      go_wp2_with fail
      go_ret
      exact ⟨by rw [HF.out]; rfl, HB.out⟩

end Go.Proofs.Ytbiblabmhlgnoaa

namespace Go.Proofs.Ytbiblabmhlgnoaa
open Go.RowKit
set_option linter.unusedVariables false
set_option linter.unusedSimpArgs false

/-- A sign that may stand in an identifier. -/
def inIB (c : Int) : Bool := (decide (97 ≤ c) && decide (c ≤ 122)) || (decide (48 ≤ c) && decide (c ≤ 57))

theorem inIB_all : ∀ n : Fin 256, inB idLS (UInt8.ofNat n.val) = inIB (n.val : Int) := by decide +kernel

theorem inIB_is (c : UInt8) : inB idLS c = inIB c.toNat := by
  have h := inIB_all ⟨c.toNat, c.toNat_lt⟩
  have e : UInt8.ofNat c.toNat = c := by simp
  rw [e] at h
  exact h

set_option maxHeartbeats 1000000 in
theorem cInId (c : Int) (w : World) (h0 : 0 ≤ c) (h1 : c ≤ 255) :
    Calls Try.prog 79 #[.int .u8 c] w fun e w' => e = .returned (.bool (inIB c)) ∧ w' = w := by
  go_enter Try.func79, Try.ntmps79
  go_wp2_with (go_at_call 106; refine (cDigit _ _ h0 h1).mono ?_; rintro e w' ⟨rfl, rfl⟩)
  all_goals go_ret
  all_goals exact ⟨ret_bool (by rw [Bool.eq_iff_iff]; simp [inIB]; try omega), rfl⟩

/-- All signs may stand in an identifier. -/
def allId (l : List UInt8) : Bool := l.all fun c => inIB c.toNat

theorem allId_is (l : List UInt8) : (l.all fun c => idLS.data.toList.any fun d => decide (d = c)) = allId l := by
  unfold allId
  congr 1
  funext c
  exact inIB_is c

theorem allId_snoc (s : ByteArray) (k : Nat) (h : k < s.size) : allId (s.data.toList.take (k + 1)) = (allId (s.data.toList.take k) && inIB s[k].toNat) := by
  unfold allId
  rw [take_snoc s k h, List.all_append]
  simp

theorem allId_no (s : ByteArray) (k : Nat) (h : k < s.size) (hc : inIB s[k].toNat = false) : allId s.data.toList = false := by
  cases hA : allId s.data.toList with
  | false => rfl
  | true =>
    have := List.all_eq_true.1 hA s[k] (List.getElem_mem _)
    rw [hc] at this
    cases this

set_option maxHeartbeats 1000000 in
theorem cAllId (s : ByteArray) (w : World) (hs : s.size ≤ 1048576) :
    Calls Try.prog 78 #[.string s, .func (.func 79) #[] #[]] w fun e w' => e = .returned (.bool (allId s.data.toList)) ∧ w' = w := by
  go_enter Try.func78, Try.ntmps78
  go_wp2
  go_loop [8] (fun i => ∃ k : Nat, k ≤ s.size ∧ i = .int .i64 k ∧ Hid (allId (s.data.toList.take k) = true)) (fun i => s.size - (intOf i).toNat)
  case atStart => exact ⟨0, Nat.zero_le _, rfl, rfl⟩
  case round =>
    obtain ⟨k, hk, rfl, HP⟩ := hrel
    by_cases hlt : k < s.size
    · have hb : (s[k].toNat : Int) ≤ 255 := by have := s[k].toNat_lt; omega
      cases hc : inIB s[k].toNat
      · go_wp2_with (go_at_call 79; refine (cInId _ _ (by omega) hb).mono ?_; rintro e w' ⟨rfl, rfl⟩)
        go_ret
        exact ⟨ret_bool (allId_no s k hlt hc).symm, rfl⟩
      · go_wp2_with (go_at_call 79; refine (cInId _ _ (by omega) hb).mono ?_; rintro e w' ⟨rfl, rfl⟩)
        go_round
        case rel => exact ⟨k + 1, by omega, by go_num, by show allId _ = true; rw [allId_snoc s k hlt, HP.out, hc]; rfl⟩
        case measure => simp [intOf]; omega
    · go_wp2
      go_ret
      exact ⟨ret_bool (by rw [← take_full s k hlt]; exact HP.out.symm), rfl⟩

theorem idOk_is (s : ByteArray) : idOk s = (decide (1 ≤ s.size) && (decide (s.size ≤ 12) && allId s.data.toList)) := by
  unfold idOk ofB
  rw [allId_is, Bool.and_comm (allId s.data.toList)]
  have e : (!decide (s.size = 0)) = decide (1 ≤ s.size) := by
    by_cases h : s.size = 0
    · rw [decide_eq_true h, decide_eq_false (show ¬ 1 ≤ s.size by omega)]; rfl
    · rw [decide_eq_false h, decide_eq_true (show 1 ≤ s.size by omega)]; rfl
  rw [e]

set_option maxHeartbeats 2000000 in
theorem cIdOk (s : ByteArray) (w : World) (hs : s.size ≤ 1048576) :
    Calls Try.prog 43 #[.string s] w fun e w' => e = .returned (.bool (idOk s)) ∧ w' = w := by
  have C := hid (fun wx => cAllId s wx hs)
  rw [idOk_is]
  generalize allId s.data.toList = M at *
  by_cases h1 : 1 ≤ s.size
  · rw [decide_eq_true h1]
    have h1' : (1 : Int) ≤ (s.size : Int) := by omega
    by_cases h12 : s.size ≤ 12
    · rw [decide_eq_true h12]
      have h12' : (s.size : Int) ≤ 12 := by omega
      go_enter Try.func43, Try.ntmps43
      go_wp2_with fail
      refine (C.out _).mono ?_
      rintro e w1 ⟨rfl, rfl⟩
      go_wp2_with fail
      go_ret
      exact ⟨by simp, rfl⟩
    · rw [decide_eq_false h12]
      have h12' : ¬ (s.size : Int) ≤ 12 := by omega
      go_enter Try.func43, Try.ntmps43
      go_wp2_with fail
      go_ret
      exact ⟨by simp, rfl⟩
  · rw [decide_eq_false h1]
    have h1' : ¬ (1 : Int) ≤ (s.size : Int) := by omega
    go_enter Try.func43, Try.ntmps43
    go_wp2_with fail
    go_ret
    exact ⟨by simp, rfl⟩

theorem treeB_p {ts : List Tk} (h : treeB ts = true) : TreeP ts := by
  by_cases q : TreeP ts
  · exact q
  · rw [treeB_f q] at h; cases h

/-- In a tree an attr of that name is the one that is found. -/
theorem tree_id {ts : List Tk} (hT : TreeP ts) {k : Nat} (hk : k < ts.length) {i : Nat} (hi : i < ts[k].attrs.length) (hn : ts[k].attrs[i].name = idS) : idAt ts k = some ts[k].attrs[i].value := by
  rw [idAt_at hk]
  refine valF_at hi (fun x hx => ?_) hn
  obtain ⟨j, hj, e⟩ := List.mem_take_iff_getElem.1 hx
  obtain ⟨⟨_, hb⟩, -⟩ := hT.2.2.2.2 k hk
  by_cases h0 : ts[k].name.size = 0
  · rw [nodeB_tx h0, Bool.and_eq_true] at hb
    have := of_decide_eq_true hb.1
    omega
  · rw [nodeB_el h0, Bool.and_eq_true, Bool.and_eq_true] at hb
    have ho : AttrsOk ts[k].attrs := by
      by_cases q : AttrsOk ts[k].attrs
      · exact q
      · rw [attrsB_f q] at hb; cases hb.2.1
    subst e
    have := ho.2.2 i j hi (by omega) hi
    rw [hn] at this
    exact this

/-- What is found is an attr of that name. -/
theorem id_tree {ts : List Tk} {k : Nat} {v : ByteArray} (hk : k < ts.length) (h : idAt ts k = some v) : ∃ (i : Nat) (hi : i < ts[k].attrs.length), ts[k].attrs[i].name = idS ∧ ts[k].attrs[i].value = v := by
  rw [idAt_at hk] at h
  unfold valF at h
  rw [Option.map_eq_some_iff] at h
  obtain ⟨x, hx, e⟩ := h
  obtain ⟨i, hi, ei⟩ := List.getElem_of_mem (List.mem_of_find?_eq_some hx)
  have h2 := List.find?_some hx
  subst ei
  exact ⟨i, hi, by simpa using h2, e⟩

end Go.Proofs.Ytbiblabmhlgnoaa
