/- Declarations in the program: contracts of the signs of a meaning, of allSigns over them, declaredBy, meaningOk, declarationsOk. What closures of the program look up: contracts of aroundAll, nearer, lookupAt, elementThere, Meaning and Known. Pairs of a meaning and a local in place of keys (mathematics alone); contracts of slices.Index and slices.Contains over a row of pairs. Which of two attrs the program holds ahead: contracts of cmp.Compare, cmp.Or, cmp.Less, compareNames and meantAttr. -/
import Derived.Test.YteninofjeidljaaGreatM13
import Derived.Test.YteninofjeidljaaGreatM17
import Derived.Test.YteninofjeidljaaGreatM15
import Derived.Test.YteninofjeidljaaGreatM1
import Derived.Deep.QuietTactic
import Derived.BigQuiet
import Derived.Laws.Cover1
namespace Go.Proofs.YteninofjeidljaaGreat

open Go.RowKit

set_option linter.unusedVariables false

set_option linter.unusedSimpArgs false

/-- A sign that may stand in a meaning. -/
def inMB (c : Int) : Bool := (decide (97 ≤ c) && decide (c ≤ 122)) || (decide (48 ≤ c) && decide (c ≤ 57)) || decide (c = 47) || decide (c = 46)

theorem inMB_all : ∀ n : Fin 256, inB sgnS (UInt8.ofNat n.val) = inMB (n.val : Int) := by decide +kernel

theorem inMB_is (c : UInt8) : inB sgnS c = inMB c.toNat := by
  have h := inMB_all ⟨c.toNat, c.toNat_lt⟩
  have e : UInt8.ofNat c.toNat = c := by simp
  rw [e] at h
  exact h

theorem cDigit (c : Int) (w : World) (h0 : 0 ≤ c) (h1 : c ≤ 255) :
    Calls Tryz.prog 185 #[.int .u8 c] w fun e w' => e = .returned (.bool (decide (48 ≤ c) && decide (c ≤ 57))) ∧ w' = w := by
  go_enter Tryz.func185, Tryz.ntmps185
  go_wp2
  all_goals go_ret
  all_goals exact ⟨ret_bool (by rw [Bool.eq_iff_iff]; simp; try omega), rfl⟩

set_option maxHeartbeats 1000000 in
theorem cInMeaning (c : Int) (w : World) (h0 : 0 ≤ c) (h1 : c ≤ 255) :
    Calls Tryz.prog 175 #[.int .u8 c] w fun e w' => e = .returned (.bool (inMB c)) ∧ w' = w := by
  go_enter Tryz.func175, Tryz.ntmps175
  go_wp2_with (go_at_call 185; refine (cDigit _ _ h0 h1).mono ?_; rintro e w' ⟨rfl, rfl⟩)
  all_goals go_ret
  all_goals exact ⟨ret_bool (by rw [Bool.eq_iff_iff]; simp [inMB]; try omega), rfl⟩

/-- All signs may stand in a meaning. -/
def allM (l : List UInt8) : Bool := l.all fun c => inMB c.toNat

theorem allM_is (l : List UInt8) : (l.all fun c => sgnS.data.toList.any fun d => decide (d = c)) = allM l := by
  unfold allM
  congr 1
  funext c
  exact inMB_is c

theorem allM_snoc (s : ByteArray) (k : Nat) (h : k < s.size) : allM (s.data.toList.take (k + 1)) = (allM (s.data.toList.take k) && inMB s[k].toNat) := by
  unfold allM
  rw [take_snoc s k h, List.all_append]
  simp

theorem allM_no (s : ByteArray) (k : Nat) (h : k < s.size) (hc : inMB s[k].toNat = false) : allM s.data.toList = false := by
  cases hA : allM s.data.toList with
  | false => rfl
  | true =>
    have := List.all_eq_true.1 hA s[k] (List.getElem_mem _)
    rw [hc] at this
    cases this

set_option maxHeartbeats 1000000 in
theorem cAllMeaning (s : ByteArray) (w : World) (hs : s.size ≤ 1048576) :
    Calls Tryz.prog 138 #[.string s, .func (.func 175) #[] #[]] w fun e w' => e = .returned (.bool (allM s.data.toList)) ∧ w' = w := by
  go_enter Tryz.func138, Tryz.ntmps138
  go_wp2
  go_loop [8] (fun i => ∃ k : Nat, k ≤ s.size ∧ i = .int .i64 k ∧ Hid (allM (s.data.toList.take k) = true)) (fun i => s.size - (intOf i).toNat)
  case atStart => exact ⟨0, Nat.zero_le _, rfl, rfl⟩
  case round =>
    obtain ⟨k, hk, rfl, HP⟩ := hrel
    by_cases hlt : k < s.size
    · have hb : (s[k].toNat : Int) ≤ 255 := by have := s[k].toNat_lt; omega
      cases hc : inMB s[k].toNat
      · go_wp2_with (go_at_call 175; refine (cInMeaning _ _ (by omega) hb).mono ?_; rintro e w' ⟨rfl, rfl⟩)
        go_ret
        exact ⟨ret_bool (allM_no s k hlt hc).symm, rfl⟩
      · go_wp2_with (go_at_call 175; refine (cInMeaning _ _ (by omega) hb).mono ?_; rintro e w' ⟨rfl, rfl⟩)
        go_round
        case rel => exact ⟨k + 1, by omega, by go_num, by show allM _ = true; rw [allM_snoc s k hlt, HP.out, hc]; rfl⟩
        case measure => simp [intOf]; omega
    · go_wp2
      go_ret
      exact ⟨ret_bool (by rw [← take_full s k hlt]; exact HP.out.symm), rfl⟩

/-- What a declaration of this prefix says is right. -/
def saysB (p v : ByteArray) : Bool := ofB sgnS 20 v && (decide (p.size = 0) || !decide (v.size = 0))

set_option maxHeartbeats 2000000 in
theorem cMeaningOk (p v : ByteArray) (w : World) (hp : p.size ≤ 1048576) (hv : v.size ≤ 1048576) :
    Calls Tryz.prog 153 #[.string p, .string v] w fun e w' => e = .returned (.bool (saysB p v)) ∧ w' = w := by
  have C := hid (fun wx => cAllMeaning v wx hv)
  have e1 : saysB p v = ((decide (v.size ≤ 20) && allM v.data.toList) && (decide (p.size = 0) || !decide (v.size = 0))) := by
    unfold saysB ofB
    rw [allM_is, Bool.and_comm (allM v.data.toList)]
  rw [e1]
  have EP := empty_is p
  have EV := empty_is v
  clear e1
  generalize allM v.data.toList = M at *
  generalize decide (p.size = 0) = D at *
  generalize decide (v.size = 0) = F at *
  by_cases h20 : v.size ≤ 20
  · rw [decide_eq_true h20]
    have h20' : (v.size : Int) ≤ 20 := by omega
    cases D
    · cases F
      · go_enter Tryz.func153, Tryz.ntmps153
        go_wp2_with fail
        refine (C.out _).mono ?_
        rintro e w1 ⟨rfl, rfl⟩
        go_wp2_with fail
        go_ret
        exact ⟨by simp, rfl⟩
      · go_enter Tryz.func153, Tryz.ntmps153
        go_wp2_with fail
        go_ret
        exact ⟨by simp, rfl⟩
    · go_enter Tryz.func153, Tryz.ntmps153
      go_wp2_with fail
      refine (C.out _).mono ?_
      rintro e w1 ⟨rfl, rfl⟩
      go_wp2_with fail
      go_ret
      exact ⟨by simp, rfl⟩
  · rw [decide_eq_false h20]
    have h20' : ¬ (v.size : Int) ≤ 20 := by omega
    cases D
    · cases F
      · go_enter Tryz.func153, Tryz.ntmps153
        go_wp2_with fail
        go_ret
        exact ⟨by simp, rfl⟩
      · go_enter Tryz.func153, Tryz.ntmps153
        go_wp2_with fail
        go_ret
        exact ⟨by simp, rfl⟩
    · go_enter Tryz.func153, Tryz.ntmps153
      go_wp2_with fail
      go_ret
      exact ⟨by simp, rfl⟩

theorem cPartsI (s : ByteArray) (w : World) (h0 : s.size ≤ 1048576) :
    Calls Tryz.prog 150 #[.string s] w fun e w' => e = .returned (.tuple #[.string (preS s), .string (locS s)]) ∧ Below w.heap.size w w' := c_impl_Parts s w h0

set_option maxHeartbeats 2000000 in
theorem cDeclaredBy (x : At) (w : World) (hz : x.name.size ≤ 1048576) :
    Calls Tryz.prog 152 #[.agg #[.string x.name, .string x.value]] w fun e w' => e = .returned (.tuple #[.string ((declF x).getD ⟨#[]⟩), .bool (declF x).isSome]) ∧ Below w.heap.size w w' := by
  have HB := hid ((Below.refl w.heap.size w).alloc (Nat.le_refl _) (.cells #[.string x.name, .string x.value] 114))
  by_cases h1 : x.name = nsS
  · have HE := hid (show declF x = some ⟨#[]⟩ by unfold declF; rw [if_pos h1])
    rw [HE.out]
    have hd : (x.name.toList == [110, 115]) = true := by rw [ns_beq]; exact decide_eq_true h1
    clear h1
    generalize x.name = n at *
    generalize x.value = v at *
    go_enter Tryz.func152, Tryz.ntmps152
    go_wp2_with fail
    go_ret2
    exact ⟨rfl, HB.out⟩
  · have hd : (x.name.toList == [110, 115]) = false := by rw [ns_beq]; exact decide_eq_false h1
    have C := hid (fun wx => cPartsI x.name wx hz)
    by_cases h2 : preS x.name = nsS
    · have HE := hid (show declF x = some (locS x.name) by unfold declF; rw [if_neg h1, if_pos h2])
      rw [HE.out]
      have hd2 : ((preS x.name).toList == [110, 115]) = true := by rw [ns_beq]; exact decide_eq_true h2
      clear h1 h2 HE
      generalize preS x.name = P at *
      generalize locS x.name = L at *
      generalize x.name = n at *
      generalize x.value = v at *
      go_enter Tryz.func152, Tryz.ntmps152
      go_wp2_with fail
      refine (C.out _).mono ?_
      rintro e w1 ⟨rfl, hb1⟩
      have HB1 := hid (bb HB.out hb1)
      clear hb1 C
      go_wp2_with fail
      go_ret2
      exact ⟨rfl, HB1.out⟩
    · have HE := hid (show declF x = none by unfold declF; rw [if_neg h1, if_neg h2])
      rw [HE.out]
      have hd2 : ((preS x.name).toList == [110, 115]) = false := by rw [ns_beq]; exact decide_eq_false h2
      clear h1 h2 HE
      generalize preS x.name = P at *
      generalize locS x.name = L at *
      generalize x.name = n at *
      generalize x.value = v at *
      go_enter Tryz.func152, Tryz.ntmps152
      go_wp2_with fail
      refine (C.out _).mono ?_
      rintro e w1 ⟨rfl, hb1⟩
      have HB1 := hid (bb HB.out hb1)
      clear hb1 C
      go_wp2_with fail
      go_ret2
      exact ⟨rfl, HB1.out⟩

theorem declF_sz {x : At} (hz : x.name.size ≤ 1048576) {p : ByteArray} (h : declF x = some p) : p.size ≤ 1048576 := by
  unfold declF at h
  split at h
  · cases h; exact Nat.zero_le _
  · split at h
    · cases h; exact locS_sz hz
    · cases h

set_option maxRecDepth 4000 in
set_option maxHeartbeats 2000000 in
theorem cDeclsOk (a : Option Addr) (cap : Nat) (l : List At) (w : World) (hR : AtRow w a l) (hz : AtSz 1048576 l) (hn : l.length ≤ 1048576) :
    Calls Tryz.prog 117 #[.slice a l.length cap] w fun e w' => e = .returned (.bool (l.all rightB)) ∧ Below w.heap.size w w' := by
  obtain ⟨V, hV⟩ : ∃ V, l.all rightB = V := ⟨_, rfl⟩
  have HV := hid hV
  rw [hV]
  clear hV
  have HR := hid hR
  have HZ := hid hz
  clear hR hz
  obtain ⟨n, hnn⟩ : ∃ n, l.length = n := ⟨_, rfl⟩
  have HN := hid hnn
  rw [hnn] at hn ⊢
  clear hnn
  go_enter Tryz.func117, Tryz.ntmps117
  go_wp2_with fail
  go_loopw [9] (fun k wr => ∃ i : Nat, k = .int .i64 (i : Int) ∧ i ≤ n ∧ Hid ((l.take i).all rightB = true) ∧ Hid (Below w.heap.size w wr)) (fun k _ => n - (intOf k).toNat)
  case atStart => exact ⟨0, rfl, Nat.zero_le _, rfl, Below.refl _ _⟩
  case round =>
    obtain ⟨i, rfl, hi, HO, HB⟩ := hrel
    by_cases hlt : i < n
    · have his : i < l.length := by rw [HN.out]; exact hlt
      obtain ⟨b, o, rfl, hb, c1, c2⟩ := HR.out.below HB.out i his
      have hin : (i : Int) < (n : Int) := by omega
      have HT := hid (take_snocN his)
      have HMEM := hid (List.getElem_mem his)
      have HS := hid (HZ.out _ (List.getElem_mem his))
      obtain ⟨y, hy⟩ : ∃ y, l[i] = y := ⟨_, rfl⟩
      rw [hy] at c1 c2 HT HS HMEM
      clear hy
      have CD := hid (fun wx => cDeclaredBy y wx HS.out.1)
      have HBX := hid (HB.out.alloc HB.out.size (.cells #[.string y.name, .string y.value] 114))
      have HBOX := hid (box_two wr (.string y.name) (.string y.value) 114)
      have HBAD := hid (show rightB y = false → V = false from fun h => by
        rw [← HV.out]
        cases hA : l.all rightB with
        | false => rfl
        | true =>
          have := List.all_eq_true.1 hA y HMEM.out
          rw [h] at this
          cases this)
      have HNX := hid (show rightB y = true → (l.take (i + 1)).all rightB = true from fun h => by rw [HT.out, List.all_append, HO.out]; simp [h])
      go_wp2_with fail
      refine (CD.out _).mono ?_
      rintro e w1 ⟨rfl, hb1⟩
      have HB1 := hid (bb HBX.out hb1)
      have d1 := (hb1.cell (p := ⟨wr.heap.size, 0, none⟩) HBOX.out.2.2).trans HBOX.out.1
      have d2 := (hb1.cell (p := ⟨wr.heap.size, 1, none⟩) HBOX.out.2.2).trans HBOX.out.2.1
      clear hb1 HBX HBOX CD c1 c2
      cases hd : declF y with
      | none =>
        have HN2 := hid (HNX.out (by unfold rightB; rw [hd]))
        clear hd
        go_wp2_with fail
        go_roundw
        case rel => exact ⟨i + 1, by go_num, by omega, HN2.out, HB1.out⟩
        case measure => simp [intOf]; omega
      | some q =>
        have CM := hid (fun wx => cMeaningOk q y.value wx (declF_sz HS.out.1 hd) HS.out.2)
        have HRI := hid (show rightB y = saysB q y.value by unfold rightB saysB; rw [hd])
        clear hd
        cases hr : rightB y with
        | false =>
          rw [← HRI.out, hr] at CM
          have HF := hid (HBAD.out hr)
          clear hr
          go_wp2_with fail
          refine (CM.out _).mono ?_
          rintro e w2 ⟨rfl, rfl⟩
          go_wp2_with fail
          go_ret
          exact ⟨by rw [HF.out]; rfl, HB1.out⟩
        | true =>
          rw [← HRI.out, hr] at CM
          have HN2 := hid (HNX.out hr)
          clear hr
          go_wp2_with fail
          refine (CM.out _).mono ?_
          rintro e w2 ⟨rfl, rfl⟩
          go_wp2_with fail
          go_roundw
          case rel => exact ⟨i + 1, by go_num, by omega, HN2.out, HB1.out⟩
          case measure => simp [intOf]; omega
    · have hie : i = n := by omega
      subst hie
      have HF := hid (show V = true by
        rw [← HV.out]
        have h := HO.out
        rw [List.take_of_length_le (by rw [HN.out]; exact Nat.le_refl _)] at h
        exact h)
      go_wp2_with fail
      go_ret
      exact ⟨by rw [HF.out]; rfl, HB.out⟩

end Go.Proofs.YteninofjeidljaaGreat

namespace Go.Proofs.YteninofjeidljaaGreat

open Go.RowKit

set_option linter.unusedVariables false

set_option linter.unusedSimpArgs false

/-- What a prefix means by these, if they are right. -/
noncomputable def lookL (l : List At) (p : ByteArray) : Option ByteArray := match l.find? (declB p) with | some x => some x.value | none => if p.size = 0 then some ⟨#[]⟩ else none

theorem meanL_look {l : List At} (p : ByteArray) (h : l.all rightB = true) : meanL l p = lookL l p := by
  unfold meanL lookL
  rw [if_pos h]
  rfl

theorem meanL_not {l : List At} (p : ByteArray) (h : l.all rightB = false) : meanL l p = none := by unfold meanL; rw [if_neg (by rw [h]; exact Bool.false_ne_true)]

theorem lookL_hit {l ls : List At} {p : ByteArray} {i : Nat} (h : i < l.length) (h0 : (l.take i).find? (declB p) = none) (h1 : declB p l[i] = true) : lookL (l ++ ls) p = some l[i].value := by
  have e : l.find? (declB p) = some l[i] := by
    rw [List.find?_eq_some_iff_getElem]
    refine ⟨h1, i, h, rfl, fun j hj => ?_⟩
    have h2 := List.find?_eq_none.1 h0 l[j] (List.mem_take_iff_getElem.2 ⟨j, by omega, rfl⟩)
    simpa using h2
  unfold lookL
  rw [List.find?_append, e]
  rfl

theorem lookL_none {l : List At} (ls : List At) {p : ByteArray} (h : l.find? (declB p) = none) : lookL (l ++ ls) p = lookL ls p := by
  unfold lookL
  rw [List.find?_append, h]
  rfl

theorem find_snoc {l : List At} {p : ByteArray} {i : Nat} (h : i < l.length) (h0 : (l.take i).find? (declB p) = none) (h1 : declB p l[i] = false) : (l.take (i + 1)).find? (declB p) = none := by
  rw [take_snocN h, List.find?_append, h0]
  simp [h1]

/-- A function with what it holds that looks up by these, from a world on. -/
def Asks (F : FuncId) (C : Array Value) (w : World) (l : List At) : Prop :=
  (∀ p (wx : World), (callFunc F (#[.string p] ++ C)).run Tryz.prog wx = .ok (.enter F (#[.string p] ++ C)) wx) ∧
  ∀ p (wx : World), Below w.heap.size w wx → p.size ≤ 1048576 → Calls Tryz.prog F (#[.string p] ++ C) wx fun e w' => e = .returned (.tuple #[.string ((lookL l p).getD ⟨#[]⟩), .bool (lookL l p).isSome]) ∧ Below wx.heap.size wx w'

theorem Asks.below {F : FuncId} {C : Array Value} {w w' : World} {l : List At} (h : Asks F C w l) (hb : Below w.heap.size w w') : Asks F C w' l := ⟨h.1, fun p wx hx hp => h.2 p wx (bb hb hx) hp⟩

theorem enters {f : FuncId} {fn : Func} {c : Code} (hf : Tryz.prog.funcs[f]? = some fn) (hname : (fn.name == "runtime.NumGoroutine") = false) (hb : fn.body = some c) (args : Array Value) (w : World) :
    (callFunc f args).run Tryz.prog w = .ok (.enter f args) w := by
  have h1 : fn.name ≠ "runtime.NumGoroutine" := by simpa using hname
  simp [callFunc, hf, h1, hb]

theorem cAround (w : World) : Asks 76 #[] w [] := by
  refine ⟨fun p wx => enters Tryz.func76 (by kernel_rfl) rfl _ wx, fun p wx hb hp => ?_⟩
  show Calls Tryz.prog 76 #[.string p] wx _
  have e1 : (lookL [] p).getD ⟨#[]⟩ = ⟨#[]⟩ := by
    unfold lookL
    simp only [List.find?_nil]
    split <;> rfl
  have e2 : (lookL [] p).isSome = decide (p.size = 0) := by
    unfold lookL
    simp only [List.find?_nil]
    split
    · rename_i h; rw [decide_eq_true h]; rfl
    · rename_i h; rw [decide_eq_false h]; rfl
  rw [e1, e2]
  have E := empty_is p
  generalize decide (p.size = 0) = D at *
  clear e1 e2
  go_enter Tryz.func76, Tryz.ntmps76
  go_wp2_with fail
  go_ret2
  exact ⟨rfl, Below.refl _ _⟩

set_option maxRecDepth 4000 in
set_option maxHeartbeats 2000000 in
theorem cNearer1 (p : ByteArray) (g1 g2 : Nat) (a : Option Addr) (cap : Nat) (l : List At) (F : FuncId) (C : Array Value) (ls : List At) (w : World) (hp : p.size ≤ 1048576) (hA : Asks F C w ls)
    (c1 : w.cell? ⟨g1, 0, none⟩ = some (.slice a l.length cap)) (c2 : w.cell? ⟨g2, 0, none⟩ = some (.func (.func F) #[] C)) (h1 : g1 < w.heap.size) (h2 : g2 < w.heap.size) (hR : AtRow w a l) (hz : AtSz 1048576 l) (hn : l.length ≤ 1048576) :
    Calls Tryz.prog 154 #[.string p, .pointer (some ⟨g1, 0, none⟩), .pointer (some ⟨g2, 0, none⟩)] w fun e w' => e = .returned (.tuple #[.string ((lookL (l ++ ls) p).getD ⟨#[]⟩), .bool (lookL (l ++ ls) p).isSome]) ∧ Below w.heap.size w w' := by
  obtain ⟨V, hV⟩ : ∃ V, lookL (l ++ ls) p = V := ⟨_, rfl⟩
  have HV := hid hV
  rw [hV]
  clear hV
  have HR := hid hR
  have HZ := hid hz
  have HC2 := hid c2
  have H2 := hid h2
  have HA := hid hA
  clear hR hz c2 h2 hA
  obtain ⟨n, hnn⟩ : ∃ n, l.length = n := ⟨_, rfl⟩
  have HN := hid hnn
  rw [hnn] at hn c1
  clear hnn
  go_enter Tryz.func154, Tryz.ntmps154
  go_wp2_with fail
  go_loopw [12] (fun k wr => ∃ i : Nat, k = .int .i64 (i : Int) ∧ i ≤ n ∧ Hid ((l.take i).find? (declB p) = none) ∧ Hid (Below w.heap.size w wr)) (fun k _ => n - (intOf k).toNat)
  case atStart => exact ⟨0, rfl, Nat.zero_le _, rfl, Below.refl _ _⟩
  case round =>
    clear c1 h1
    obtain ⟨i, rfl, hi, HO, HB⟩ := hrel
    by_cases hlt : i < n
    · have his : i < l.length := by rw [HN.out]; exact hlt
      obtain ⟨b, o, rfl, hb, c1, c2⟩ := HR.out.below HB.out i his
      have hin : (i : Int) < (n : Int) := by omega
      have HS := hid (HZ.out _ (List.getElem_mem his))
      have HIT := hid (show declB p l[i] = true → V = some l[i].value from fun h => by rw [← HV.out]; exact lookL_hit his HO.out h)
      have HNX := hid (show declB p l[i] = false → (l.take (i + 1)).find? (declB p) = none from fun h => find_snoc his HO.out h)
      obtain ⟨y, hy⟩ : ∃ y, l[i] = y := ⟨_, rfl⟩
      rw [hy] at c1 c2 HS HIT HNX
      clear hy
      have CD := hid (fun wx => cDeclaredBy y wx HS.out.1)
      have CC := hid (fun wx => c_strings_Clone y.value wx HS.out.2)
      have HBX := hid (HB.out.alloc HB.out.size (.cells #[.string y.name, .string y.value] 114))
      have HBOX := hid (box_two wr (.string y.name) (.string y.value) 114)
      go_wp2_with fail
      refine (CD.out _).mono ?_
      rintro e w1 ⟨rfl, hb1⟩
      have HB1 := hid (bb HBX.out hb1)
      have d1 := (hb1.cell (p := ⟨wr.heap.size, 0, none⟩) HBOX.out.2.2).trans HBOX.out.1
      have d2 := (hb1.cell (p := ⟨wr.heap.size, 1, none⟩) HBOX.out.2.2).trans HBOX.out.2.1
      clear hb1 HBX HBOX CD c1 c2
      cases hd : declF y with
      | none =>
        have HN2 := hid (HNX.out (by unfold declB; rw [hd]; simp))
        clear hd
        go_wp2_with fail
        go_roundw
        case rel => exact ⟨i + 1, by go_num, by omega, HN2.out, HB1.out⟩
        case measure => simp [intOf]; omega
      | some q =>
        by_cases hq : q = p
        · have hqq : (q.toList == p.toList) = true := by rw [str_beq]; exact decide_eq_true hq
          have HF := hid (HIT.out (by unfold declB; rw [hd, hq]; simp))
          clear hd hq
          go_wp2_with fail
          refine (CC.out _).mono ?_
          rintro e w2 ⟨rfl, hb2⟩
          have HB2 := hid (bb HB1.out hb2)
          clear hb2
          go_wp2_with fail
          go_ret2
          exact ⟨by rw [HF.out]; rfl, HB2.out⟩
        · have hqq : (q.toList == p.toList) = false := by rw [str_beq]; exact decide_eq_false hq
          have HN2 := hid (HNX.out (by unfold declB; rw [hd]; simp [hq]))
          clear hd hq
          go_wp2_with fail
          go_roundw
          case rel => exact ⟨i + 1, by go_num, by omega, HN2.out, HB1.out⟩
          case measure => simp [intOf]; omega
    · have hie : i = n := by omega
      subst hie
      have HF := hid (show lookL ls p = V by
        rw [← HV.out]
        have h := HO.out
        rw [List.take_of_length_le (by rw [HN.out]; exact Nat.le_refl _)] at h
        exact (lookL_none ls h).symm)
      have c2 := (HB.out.cell (p := ⟨g2, 0, none⟩) H2.out).trans HC2.out
      have he := HA.out.1 p
      have CF := hid (HA.out.2 p _ HB.out hp)
      rw [HF.out] at CF
      go_wp2_with fail
      refine CF.out.mono ?_
      rintro e w2 ⟨rfl, hb2⟩
      have HB2 := hid (bb HB.out hb2)
      clear hb2 CF
      go_wp2_with fail
      go_ret2
      exact ⟨rfl, HB2.out⟩

theorem box_both (w : World) (x y : Value) (T U : TypeId) : let w' := (w.alloc (.cells #[x] T)).alloc (.cells #[y] U)
    w'.cell? ⟨w.heap.size, 0, none⟩ = some x ∧ w'.cell? ⟨w.heap.size + 1, 0, none⟩ = some y ∧ w'.heap.size = w.heap.size + 2 := by
  refine ⟨?_, ?_, by simp⟩
  · rw [Lib.cell_of_heap (blk_alloc (heap_alloc_new w (.cells #[x] T)) (.cells #[y] U))]; rfl
  · rw [Lib.cell_of_heap (heap_two w (.cells #[x] T) (.cells #[y] U))]; rfl

set_option maxHeartbeats 2000000 in
theorem cNearer (a : Option Addr) (cap : Nat) (l : List At) (F : FuncId) (C : Array Value) (ls : List At) (w : World) (hA : Asks F C w ls) (hR : AtRow w a l) (hz : AtSz 1048576 l) (hn : l.length ≤ 1048576) :
    Calls Tryz.prog 118 #[.slice a l.length cap, .func (.func F) #[] C] w fun e w' => ∃ C', e = .returned (.func (.func 154) #[] C') ∧ Asks 154 C' w' (l ++ ls) ∧ Below w.heap.size w w' := by
  have hmf : ∀ (fn : Fn) (first cap : Array Value) (w : World), (Instr.makeFunc fn first cap).run Tryz.prog w = .ok (.func fn first cap) w := fun _ _ _ _ => rfl
  have HB := hid (((Below.refl w.heap.size w).alloc (Nat.le_refl _) (.cells #[.slice a l.length cap] 40)).alloc (by simp) (.cells #[.func (.func F) #[] C] 98))
  have HX := hid (box_both w (.slice a l.length cap) (.func (.func F) #[] C) 40 98)
  have HE := hid (show Asks 154 #[.pointer (some ⟨w.heap.size, 0, none⟩), .pointer (some ⟨w.heap.size + 1, 0, none⟩)] ((w.alloc (.cells #[.slice a l.length cap] 40)).alloc (.cells #[.func (.func F) #[] C] 98)) (l ++ ls) by
    refine ⟨fun p wx => enters Tryz.func154 (by kernel_rfl) rfl _ wx, fun p wx hb hp => ?_⟩
    obtain ⟨x1, x2, x3⟩ := HX.out
    have hw := bb HB.out hb
    refine cNearer1 p _ _ a cap l F C ls wx hp (hA.below hw) ((hb.cell (p := ⟨w.heap.size, 0, none⟩) ?_).trans x1) ((hb.cell (p := ⟨w.heap.size + 1, 0, none⟩) ?_).trans x2) ?_ ?_ (hR.below hw) hz hn
    · show w.heap.size < _; omega
    · show w.heap.size + 1 < _; omega
    · have := hb.size; omega
    · have := hb.size; omega)
  clear hA hR hz HX
  generalize l.length = n at *
  go_enter Tryz.func118, Tryz.ntmps118
  go_wp2_with fail
  go_ret
  exact ⟨_, rfl, HE.out, HB.out⟩

theorem up_drop {ts : List Tk} {c : List Nat} {m : Nat} (hm : m < c.length) {t : Tk} (h : ts[c[m]]? = some t) : upAts ts (c.drop m) = t.attrs ++ upAts ts (c.drop (m + 1)) := by
  unfold upAts
  rw [List.drop_eq_getElem_cons hm, List.flatMap_cons, h]

/-- One of the chain: what is known of it, outwards. -/
theorem chain_out {ts : List Tk} {c : List Nat} (h : ∀ m (h : m < c.length), c[m] < ts.length ∧ parI ts c[m] = kAt c (m + 1) ∧ kAt c (m + 1) < (c[m] : Int)) {m : Nat} (hm : m < c.length) :
    ∃ (x : Nat) (t : Tk), x < ts.length ∧ kAt c m = (x : Int) ∧ t.kind = kAt c (m + 1) ∧ t ∈ ts ∧ upAts ts (c.drop m) = t.attrs ++ upAts ts (c.drop (m + 1)) ∧
      ∀ wx a, TkRow wx a ts → ∃ b o aa cap, a = some ⟨b, o, none⟩ ∧ b < wx.heap.size ∧ wx.cell? ⟨b, o + x * 4, none⟩ = some (.int .i64 t.kind) ∧ wx.cell? ⟨b, o + x * 4 + 2, none⟩ = some (.slice aa t.attrs.length cap) ∧ AtRow wx aa t.attrs := by
  obtain ⟨h1, h2, h3⟩ := h m hm
  refine ⟨c[m], ts[c[m]], h1, kAt_lt hm, by rw [← parI_at h1, h2], List.getElem_mem h1, up_drop hm (List.getElem?_eq_getElem h1), fun wx a hr => ?_⟩
  obtain ⟨b, o, aa, ca, e, hb, q0, q1, q2, q3, q4⟩ := hr c[m] h1
  exact ⟨b, o, aa, ca, e, hb, q0, q2, q4⟩

set_option maxRecDepth 4000 in
set_option maxHeartbeats 4000000 in
theorem cLookupC (a : Option Addr) (cap : Nat) (ts : List Tk) (c : List Nat) (hc : ∀ m (h : m < c.length), c[m] < ts.length ∧ parI ts c[m] = kAt c (m + 1) ∧ kAt c (m + 1) < (c[m] : Int)) (hn : ts.length ≤ 1048576) (hz : TksSz 1048576 ts) :
    ∀ d m, m + d = c.length → ∀ w, TkRow w a ts → Calls Tryz.prog 73 #[.slice a ts.length cap, .int .i64 (kAt c m)] w fun e w' =>
      ∃ v, e = .returned (.tuple #[v, .bool ((upAts ts (c.drop m)).all rightB)]) ∧ ((upAts ts (c.drop m)).all rightB = true → ∃ F C, v = .func (.func F) #[] C ∧ Asks F C w' (upAts ts (c.drop m))) ∧ Below w.heap.size w w'
  | 0, m, hm, w, hR => by
    have e1 : m = c.length := by omega
    subst e1
    have e2 : upAts ts (c.drop c.length) = [] := by rw [List.drop_length]; rfl
    rw [kAt_end, e2]
    clear hR hz hc e2
    generalize ts.length = n at *
    go_enter Tryz.func73, Tryz.ntmps73
    go_wp2_with fail
    go_ret2
    exact ⟨_, rfl, fun _ => ⟨_, _, rfl, cAround _⟩, Below.refl _ _⟩
  | d + 1, m, hm, w, hR => by
    have hml : m < c.length := by omega
    have IH := hid (cLookupC a cap ts c hc hn hz d (m + 1) (by omega) w hR)
    obtain ⟨x, t, hx, ek, hk2, hts, hup, hrow⟩ := chain_out hc hml
    rw [ek, hup]
    rw [← hk2] at IH
    have hx1 : ((x : Int) == -1) = false := by simp
    have HZT := hid (hz _ hts)
    have HROW := hid (fun wx (hb : Below w.heap.size w wx) => hrow wx _ (hR.below hb))
    obtain ⟨b, o, aa, ca, rfl, hb, c0, c2, hA⟩ := hrow w _ hR
    have hxn : (x : Int) < (ts.length : Int) := by omega
    obtain ⟨R, hRR⟩ : ∃ R, upAts ts (c.drop (m + 1)) = R := ⟨_, rfl⟩
    rw [hRR] at IH ⊢
    clear hRR hup ek hk2 hts hrow hR hz hc hx
    generalize ts.length = n at *
    have HNA := hid (HZT.out.2.1)
    have CDO := hid (fun wx aa ca (h : AtRow wx aa t.attrs) => cDeclsOk aa ca t.attrs wx h HZT.out.2.2.1 HNA.out)
    have CNR := hid (fun wx aa ca F C (hF : Asks F C wx R) (h : AtRow wx aa t.attrs) => cNearer aa ca t.attrs F C R wx hF h HZT.out.2.2.1 HNA.out)
    have HAL := hid (show (t.attrs ++ R).all rightB = (t.attrs.all rightB && R.all rightB) from List.all_append)
    rw [HAL.out]
    obtain ⟨B1, hB1⟩ : ∃ B1, t.attrs.all rightB = B1 := ⟨_, rfl⟩
    obtain ⟨B2, hB2⟩ : ∃ B2, R.all rightB = B2 := ⟨_, rfl⟩
    rw [hB1] at CDO
    rw [hB2] at IH
    rw [hB1, hB2]
    obtain ⟨V, hV⟩ : ∃ V, (B1 && B2) = V := ⟨_, rfl⟩
    have HVB := hid hV
    rw [hV]
    clear hV
    clear hB1 hB2 HAL hA
    go_enter Tryz.func73, Tryz.ntmps73
    go_wp2_with fail
    refine IH.out.mono ?_
    rintro e w1 ⟨v, rfl, hv, hb1⟩
    have HB1 := hid hb1
    have HVV := hid hv
    clear hb1 hv IH c0 c2
    cases B2 with
    | false =>
      have HV0 := hid (show V = false by rw [← HVB.out, Bool.and_false])
      go_wp2_with fail
      go_ret2
      exact ⟨_, by rw [HV0.out]; rfl, fun h => (by rw [HV0.out] at h; cases h), HB1.out⟩
    | true =>
      obtain ⟨F, C, rfl, hF⟩ := HVV.out rfl
      have HF := hid hF
      clear hF HVV
      obtain ⟨b', o', aa, ca, e', hb, c0, c2, hA⟩ := HROW.out _ HB1.out
      obtain ⟨rfl, rfl⟩ : b = b' ∧ o = o' := by cases e'; exact ⟨rfl, rfl⟩
      have HA := hid hA
      clear e' hA c0
      go_wp2_with fail
      refine (CDO.out _ _ _ HA.out).mono ?_
      rintro e w2 ⟨rfl, hb2⟩
      have HB2 := hid (bb HB1.out hb2)
      have HF2 := hid (HF.out.below hb2)
      clear hb2 c2 HA hb HF
      cases B1 with
      | false =>
        have HV0 := hid (show V = false by rw [← HVB.out]; rfl)
        go_wp2_with fail
        go_ret2
        exact ⟨_, by rw [HV0.out]; rfl, fun h => (by rw [HV0.out] at h; cases h), HB2.out⟩
      | true =>
        obtain ⟨b', o', aa, ca, e', hb, c0, c2, hA⟩ := HROW.out _ HB2.out
        obtain ⟨rfl, rfl⟩ : b = b' ∧ o = o' := by cases e'; exact ⟨rfl, rfl⟩
        have HA := hid hA
        clear e' hA c0
        go_wp2_with fail
        refine (CNR.out _ _ _ _ _ HF2.out HA.out).mono ?_
        rintro e w3 ⟨C', rfl, hF3, hb3⟩
        have HB3 := hid (bb HB2.out hb3)
        have HF3 := hid hF3
        have HV0 := hid (show V = true by rw [← HVB.out]; rfl)
        clear hb3 hF3
        go_wp2_with fail
        go_ret2
        exact ⟨_, by rw [HV0.out]; rfl, fun _ => ⟨_, _, rfl, HF3.out⟩, HB3.out⟩

/-- All from one on, outwards. -/
def outAts (ts : List Tk) (k : Nat) : List At := upAts ts (chainF ts (k + 1))

theorem cLookupAt (a : Option Addr) (cap : Nat) (ts : List Tk) (k : Nat) (w : World) (hR : TkRow w a ts) (hT : TreeP ts) (hk : k < ts.length) (hn : ts.length ≤ 1048576) (hz : TksSz 1048576 ts) :
    Calls Tryz.prog 73 #[.slice a ts.length cap, .int .i64 (k : Int)] w fun e w' =>
      ∃ v, e = .returned (.tuple #[v, .bool ((outAts ts k).all rightB)]) ∧ ((outAts ts k).all rightB = true → ∃ F C, v = .func (.func F) #[] C ∧ Asks F C w' (outAts ts k)) ∧ Below w.heap.size w w' := by
  obtain ⟨h1, h2⟩ := chain_at hT hk
  have h := cLookupC a cap ts _ h1 hn hz (chainF ts (k + 1)).length 0 (by omega) w hR
  rw [h2] at h
  exact h

theorem meanF_out (ts : List Tk) (k : Nat) (p : ByteArray) : meanF ts k p = meanL (outAts ts k) p := rfl

set_option maxHeartbeats 2000000 in
theorem cElementThere (a : Option Addr) (cap : Nat) (ts : List Tk) (x : Int) (w : World) (hR : TkRow w a ts) (hn : ts.length ≤ 1048576) (hz : TksSz 1048576 ts) :
    Calls Tryz.prog 71 #[.slice a ts.length cap, .int .i64 x] w fun e w' => e = .returned (.bool (elemB ts x)) ∧ Below w.heap.size w w' := by
  have C := hid (cThere a cap ts x w hR hn hz)
  have HR := hid hR
  clear hR
  cases hh : hasB ts x with
  | false =>
    have HE := hid (show elemB ts x = false by unfold elemB; rw [hh]; rfl)
    rw [HE.out]
    rw [hh] at C
    clear hh HE HR hz
    generalize ts.length = n at *
    go_enter Tryz.func71, Tryz.ntmps71
    go_wp2_with fail
    refine C.out.mono ?_
    rintro e w1 ⟨rfl, hb1⟩
    have HB1 := hid hb1
    clear hb1 C
    go_wp2_with fail
    go_ret
    exact ⟨rfl, HB1.out⟩
  | true =>
    obtain ⟨hT, k, rfl, hk⟩ := hasB_t hh
    have HE := hid (show elemB ts (k : Int) = !decide (ts[k].name.size = 0) by unfold elemB; rw [hh]; show (true && !decide ((nameI ts k).size = 0)) = _; rw [nameI_at hk]; rfl)
    rw [HE.out]
    rw [hh] at C
    have HROW := hid (fun wx (hb : Below w.heap.size w wx) => (HR.out.below hb) k hk)
    obtain ⟨b, o, _, _, ea, -⟩ := HR.out k hk
    subst ea
    have hkn : (k : Int) < (ts.length : Int) := by omega
    have CI := hid (fun wx aa nA ca => cIsText ts[k].kind ts[k].name aa nA ca ts[k].text wx (hz _ (List.getElem_mem hk)).1)
    clear hh HE HR hz hT
    generalize decide (ts[k].name.size = 0) = D at *
    generalize ts[k].kind = K at *
    generalize ts[k].name = N at *
    generalize ts[k].text = T at *
    generalize ts[k].attrs = A at *
    generalize ts.length = n at *
    go_enter Tryz.func71, Tryz.ntmps71
    go_wp2_with fail
    refine C.out.mono ?_
    rintro e w1 ⟨rfl, hb1⟩
    obtain ⟨b', o', aa, ca, e', hb, q0, q1, q2, q3, _⟩ := HROW.out _ hb1
    obtain ⟨rfl, rfl⟩ : b = b' ∧ o = o' := by cases e'; exact ⟨rfl, rfl⟩
    have HB1 := hid hb1
    clear hb1 C e' HROW
    go_wp2_with fail
    refine (CI.out _ _ _ _).mono ?_
    rintro e w2 ⟨rfl, hb2⟩
    have HB2 := hid (bb HB1.out hb2)
    clear hb2
    go_wp2_with fail
    go_ret
    exact ⟨rfl, HB2.out⟩

end Go.Proofs.YteninofjeidljaaGreat

namespace Go.Proofs.YteninofjeidljaaGreat

open Go.RowKit

set_option linter.unusedVariables false

set_option linter.unusedSimpArgs false

theorem sp_inj : ∀ (a b c d : List UInt8), (∀ x ∈ a, ¬ x = 32) → (∀ x ∈ c, ¬ x = 32) → a ++ 32 :: b = c ++ 32 :: d → a = c ∧ b = d
  | [], b, [], d, _, _, h => ⟨rfl, by simpa using h⟩
  | [], b, y :: c, d, _, hc, h => by
    simp only [List.nil_append, List.cons_append, List.cons.injEq] at h
    exact absurd h.1.symm (hc y (List.mem_cons_self ..))
  | x :: a, b, [], d, ha, _, h => by
    simp only [List.nil_append, List.cons_append, List.cons.injEq] at h
    exact absurd h.1 (ha x (List.mem_cons_self ..))
  | x :: a, b, y :: c, d, ha, hc, h => by
    simp only [List.cons_append, List.cons.injEq] at h
    obtain ⟨e1, e2⟩ := sp_inj a b c d (fun z hz => ha z (List.mem_cons_of_mem _ hz)) (fun z hz => hc z (List.mem_cons_of_mem _ hz)) h.2
    exact ⟨by rw [h.1, e1], e2⟩

/-- No blank stands in it. -/
def NoSp (s : ByteArray) : Prop := ∀ x ∈ s.data.toList, ¬ x = 32

theorem key_inj {a b c d : ByteArray} (ha : NoSp a) (hc : NoSp c) (h : (a ++ ⟨#[32]⟩) ++ b = (c ++ ⟨#[32]⟩) ++ d) : a = c ∧ b = d := by
  have h2 : a.data.toList ++ 32 :: b.data.toList = c.data.toList ++ 32 :: d.data.toList := by
    have h3 := congrArg (fun s : ByteArray => s.data.toList) h
    simpa using h3
  obtain ⟨e1, e2⟩ := sp_inj _ _ _ _ ha hc h2
  refine ⟨?_, ?_⟩
  · apply ByteArray.ext
    exact Array.toList_inj.1 e1
  · apply ByteArray.ext
    exact Array.toList_inj.1 e2

theorem of_nosp {s : ByteArray} (h : ofB sgnS 20 s = true) : NoSp s := by
  intro x hx e
  subst e
  unfold ofB at h
  rw [Bool.and_eq_true] at h
  have h2 := List.all_eq_true.1 h.1 _ hx
  revert h2
  decide

theorem look_nosp {l : List At} (hl : l.all rightB = true) (p : ByteArray) : NoSp ((lookL l p).getD ⟨#[]⟩) := by
  unfold lookL
  cases hf : l.find? (declB p) with
  | none =>
    simp only
    split
    · intro x hx; cases hx
    · intro x hx; cases hx
  | some y =>
    simp only [Option.getD_some]
    have h1 := List.all_eq_true.1 hl y (List.mem_of_find?_eq_some hf)
    have h2 := List.find?_some hf
    unfold declB at h2
    have h3 : declF y = some p := by simpa using h2
    unfold rightB at h1
    rw [h3] at h1
    simp only [Bool.and_eq_true] at h1
    exact of_nosp h1.1

noncomputable def pairN (ts : List Tk) (i : Nat) (x : At) : ByteArray × ByteArray := ((meanF ts i (preS x.name)).getD ⟨#[]⟩, locS x.name)

noncomputable def pairsN (ts : List Tk) (i : Nat) (l : List At) : List (ByteArray × ByteArray) := (l.filter cntB).map (pairN ts i)

theorem meanF_look {ts : List Tk} {i : Nat} (h : (outAts ts i).all rightB = true) (p : ByteArray) : meanF ts i p = lookL (outAts ts i) p := by
  rw [meanF_out]
  exact meanL_look p h

theorem pair_mem {ts : List Tk} {i : Nat} (h : (outAts ts i).all rightB = true) (l : List At) (x : At) : keyN ts i x ∈ keysN ts i l ↔ pairN ts i x ∈ pairsN ts i l := by
  unfold keysN pairsN
  rw [List.mem_map, List.mem_map]
  refine exists_congr fun y => and_congr_right fun _ => ?_
  unfold keyN pairN
  have n1 : NoSp ((meanF ts i (preS y.name)).getD ⟨#[]⟩) := by rw [meanF_look h]; exact look_nosp h _
  have n2 : NoSp ((meanF ts i (preS x.name)).getD ⟨#[]⟩) := by rw [meanF_look h]; exact look_nosp h _
  constructor
  · intro e
    obtain ⟨e1, e2⟩ := key_inj n1 n2 e
    rw [e1, e2]
  · intro e
    have e1 := congrArg Prod.fst e
    have e2 := congrArg Prod.snd e
    simp only at e1 e2
    rw [e1, e2]

theorem pairsN_skip {ts : List Tk} {i : Nat} {l : List At} {x : At} (hc : cntB x = false) : pairsN ts i (l ++ [x]) = pairsN ts i l := by
  unfold pairsN
  rw [List.filter_append]
  simp [hc]

theorem pairsN_more {ts : List Tk} {i : Nat} {l : List At} {x : At} (hc : cntB x = true) : pairsN ts i (l ++ [x]) = pairsN ts i l ++ [pairN ts i x] := by
  unfold pairsN
  rw [List.filter_append]
  simp [hc]

theorem cntB_is (x : At) : cntB x = (!decide ((preS x.name).size = 0) && !decide (preS x.name = nsS)) := by
  have h0 : preS nsS = ⟨#[]⟩ := by decide +kernel
  unfold cntB declF
  by_cases h1 : x.name = nsS
  · rw [if_pos h1, h1, h0]
    rfl
  · rw [if_neg h1]
    by_cases h2 : preS x.name = nsS
    · rw [if_pos h2, decide_eq_true h2]
      simp
    · rw [if_neg h2, decide_eq_false h2]
      simp

/-- Pairs as cells. -/
def prC (ps : List (ByteArray × ByteArray)) : List Value := ps.flatMap fun q => [.string q.1, .string q.2]

theorem prC_snoc (ps : List (ByteArray × ByteArray)) (q : ByteArray × ByteArray) : prC (ps ++ [q]) = prC ps ++ [.string q.1, .string q.2] := by
  unfold prC
  rw [List.flatMap_append]
  simp

theorem prC_get : ∀ (ps : List (ByteArray × ByteArray)) (j : Nat) (h : j < ps.length), (prC ps)[j * 2]? = some (.string ps[j].1) ∧ (prC ps)[j * 2 + 1]? = some (.string ps[j].2)
  | [], j, h => by simp at h
  | x :: ps, 0, h => ⟨rfl, rfl⟩
  | x :: ps, j + 1, h => by
    have := prC_get ps j (by simpa using h)
    rw [show (j + 1) * 2 = j * 2 + 1 + 1 by omega]
    exact this

/-- A row of pairs can be read. -/
def PrRow (w : World) (a : Option Addr) (ps : List (ByteArray × ByteArray)) : Prop := ∀ j (h : j < ps.length), ∃ g, a = some ⟨g, 0, none⟩ ∧ g < w.heap.size ∧ w.cell? ⟨g, j * 2, none⟩ = some (.string ps[j].1) ∧ w.cell? ⟨g, j * 2 + 1, none⟩ = some (.string ps[j].2)

theorem PrRow.below {w w' : World} {a : Option Addr} {ps : List (ByteArray × ByteArray)} (h : PrRow w a ps) (hb : Below w.heap.size w w') : PrRow w' a ps := by
  intro j hj
  obtain ⟨g, e, hg, c1, c2⟩ := h j hj
  exact ⟨g, e, Nat.lt_of_lt_of_le hg hb.size, (hb.cell (p := ⟨g, j * 2, none⟩) hg).trans c1, (hb.cell (p := ⟨g, j * 2 + 1, none⟩) hg).trans c2⟩

theorem PrRow.of {w : World} {B : Nat} {a : Option Addr} {c : Nat} {ps : List (ByteArray × ByteArray)} (h : w.ownsRow B 186 2 (.slice a ps.length c) ps.length (prC ps)) : PrRow w a ps := by
  intro j hj
  rcases h.2 with ⟨_, h0⟩ | ⟨g, cap, cur, e, hg, hh, h3⟩
  · omega
  · cases e
    obtain ⟨p1, p2⟩ := prC_get ps j hj
    exact ⟨g, rfl, lt_of_heap hh, by rw [World.ownsRow.cellAt h (j * 2) (by omega)]; exact p1, by rw [World.ownsRow.cellAt h (j * 2 + 1) (by omega)]; exact p2⟩

theorem prs_more {w1 : World} {B : Nat} {v : Value} {ps : List (ByteArray × ByteArray)} {q : ByteArray × ByteArray} (h : w1.ownsRow B 186 2 v (ps.length + 1) (prC ps ++ [.string q.1, .string q.2])) : ∃ a c, v = .slice a (ps ++ [q]).length c ∧ w1.ownsRow B 186 2 (.slice a (ps ++ [q]).length c) (ps ++ [q]).length (prC (ps ++ [q])) := by
  have e : (ps ++ [q]).length = ps.length + 1 := by rw [List.length_append]; rfl
  rw [e, prC_snoc]
  rcases h.2 with ⟨rfl, h0⟩ | ⟨g, cap, cur, rfl, h3⟩
  · omega
  · exact ⟨_, _, rfl, h⟩

/-- One of them is it. -/
noncomputable def hasP (ps : List (ByteArray × ByteArray)) (q : ByteArray × ByteArray) : Bool := open Classical in decide (q ∈ ps)

theorem hasP_t {ps : List (ByteArray × ByteArray)} {q : ByteArray × ByteArray} (h : q ∈ ps) : hasP ps q = true := by unfold hasP; simp [h]

theorem hasP_f {ps : List (ByteArray × ByteArray)} {q : ByteArray × ByteArray} (h : ¬ q ∈ ps) : hasP ps q = false := by unfold hasP; simp [h]

set_option maxRecDepth 4000 in
set_option maxHeartbeats 2000000 in
theorem cIndexP (a : Option Addr) (cap : Nat) (ps : List (ByteArray × ByteArray)) (m l : ByteArray) (w : World) (hR : PrRow w a ps) (hn : ps.length ≤ 1048576) :
    Calls Tryz.prog 184 #[.slice a ps.length cap, .agg #[.string m, .string l]] w fun e w' => ∃ r : Int, e = .returned (.int .i64 r) ∧ decide (0 ≤ r) = hasP ps (m, l) ∧ Below w.heap.size w w' := by
  obtain ⟨V, hV⟩ : ∃ V, hasP ps (m, l) = V := ⟨_, rfl⟩
  have HF : Hid (¬ (m, l) ∈ ps → V = false) := fun h => by rw [← hV]; exact hasP_f h
  have HT : Hid ((m, l) ∈ ps → V = true) := fun h => by rw [← hV]; exact hasP_t h
  rw [hV]
  clear hV
  have HR := hid hR
  have HB0 := hid ((Below.refl w.heap.size w).alloc (Nat.le_refl _) (.cells #[.string m, .string l] 186))
  have HX := hid (box_two w (.string m) (.string l) 186)
  clear hR
  obtain ⟨n, hnn⟩ : ∃ n, ps.length = n := ⟨_, rfl⟩
  have HN := hid hnn
  rw [hnn] at hn ⊢
  clear hnn
  go_enter Tryz.func184, Tryz.ntmps184
  go_wp2_with fail
  go_loopw [8] (fun k wr => ∃ i : Nat, k = .int .i64 (i : Int) ∧ i ≤ n ∧ Hid (¬ (m, l) ∈ ps.take i) ∧ Hid (Below (w.heap.size + 1) (w.alloc (.cells #[.string m, .string l] 186)) wr)) (fun k _ => n - (intOf k).toNat)
  case atStart => exact ⟨0, rfl, Nat.zero_le _, by show ¬ _; simp, Below.refl _ _⟩
  case round =>
    obtain ⟨i, rfl, hi, HO, HB⟩ := hrel
    have k1 := (HB.out.cell (p := ⟨w.heap.size, 0, none⟩) (Nat.lt_succ_self _)).trans HX.out.1
    have k2 := (HB.out.cell (p := ⟨w.heap.size, 1, none⟩) (Nat.lt_succ_self _)).trans HX.out.2.1
    have HBw := hid (HB0.out.trans (HB.out.mono (Nat.le_succ _)))
    by_cases hlt : i < n
    · have his : i < ps.length := by rw [HN.out]; exact hlt
      obtain ⟨g, rfl, hg, c1, c2⟩ := (HR.out.below HBw.out) i his
      have hin : (i : Int) < (n : Int) := by omega
      have hin0 : (0 : Int) ≤ (i : Int) := by omega
      have q1 := str_beq m ps[i].1
      have q2 := str_beq l ps[i].2
      have HTK := hid (take_snocN his)
      have HYES := hid (show m = ps[i].1 → l = ps[i].2 → V = true from fun e1 e2 => HT.out (by rw [e1, e2]; exact List.getElem_mem his))
      have HNO := hid (show ¬ (m = ps[i].1 ∧ l = ps[i].2) → ¬ (m, l) ∈ ps.take (i + 1) from fun h hm => by
        rw [HTK.out] at hm
        rcases List.mem_append.1 hm with h' | h'
        · exact HO.out h'
        · rw [List.mem_singleton] at h'
          exact h ⟨congrArg Prod.fst h', congrArg Prod.snd h'⟩)
      generalize ps[i].1 = m' at *
      generalize ps[i].2 = l' at *
      by_cases e1 : m = m'
      · rw [decide_eq_true e1] at q1
        by_cases e2 : l = l'
        · rw [decide_eq_true e2] at q2
          have HV := hid (HYES.out e1 e2)
          clear HNO HYES e1 e2
          go_wp2_with fail
          go_quiet (fail)
          go_wp2_with fail
          go_ret
          exact ⟨_, rfl, by rw [HV.out]; exact decide_eq_true hin0, below_drewN HBw.out _⟩
        · rw [decide_eq_false e2] at q2
          have HN2 := hid (HNO.out (fun h => e2 h.2))
          clear HNO HYES e1 e2
          go_wp2_with fail
          go_quiet (fail)
          go_wp2_with fail
          go_roundw
          case rel => exact ⟨i + 1, by go_num, by omega, HN2.out, below_drewN HB.out _⟩
          case measure => simp [intOf]; omega
      · rw [decide_eq_false e1] at q1
        have HN2 := hid (HNO.out (fun h => e1 h.1))
        clear HNO HYES e1 q2
        go_wp2_with fail
        go_quiet (fail)
        go_wp2_with fail
        go_roundw
        case rel => exact ⟨i + 1, by go_num, by omega, HN2.out, below_drewN HB.out _⟩
        case measure => simp [intOf]; omega
    · have hie : i = n := by omega
      subst hie
      have HV := hid (HF.out (by
        have h := HO.out
        rw [List.take_of_length_le (by rw [HN.out]; exact Nat.le_refl _)] at h
        exact h))
      go_wp2_with fail
      go_ret
      exact ⟨_, rfl, by rw [HV.out]; rfl, HBw.out⟩

set_option maxHeartbeats 2000000 in
theorem cContainsP (a : Option Addr) (cap : Nat) (ps : List (ByteArray × ByteArray)) (m l : ByteArray) (w : World) (hR : PrRow w a ps) (hn : ps.length ≤ 1048576) :
    Calls Tryz.prog 174 #[.slice a ps.length cap, .agg #[.string m, .string l]] w fun e w' => e = .returned (.bool (hasP ps (m, l))) ∧ Below w.heap.size w w' := by
  have HB0 := hid ((Below.refl w.heap.size w).alloc (Nat.le_refl _) (.cells #[.string m, .string l] 186))
  have C := hid (cIndexP a cap ps m l (w.alloc (.cells #[.string m, .string l] 186)) (hR.below HB0.out) hn)
  clear hR
  generalize hasP ps (m, l) = V at *
  generalize ps.length = n at *
  go_enter Tryz.func174, Tryz.ntmps174
  go_wp2_with fail
  refine C.out.mono ?_
  rintro e w1 ⟨r, rfl, hr, hb1⟩
  have HB1 := hid (bb HB0.out hb1)
  clear hb1 C
  go_wp2_with fail
  go_ret
  exact ⟨rfl, HB1.out⟩

end Go.Proofs.YteninofjeidljaaGreat

namespace Go.Proofs.YteninofjeidljaaGreat

open Go.RowKit

set_option linter.unusedVariables false

set_option linter.unusedSimpArgs false

theorem cIsNaN (x : ByteArray) (w : World) : Calls Tryz.prog 196 #[.string x] w fun e w' => e = .returned (.bool false) ∧ w' = w := by
  have hx : (x.toList != x.toList) = false := by simp
  go_enter Tryz.func196, Tryz.ntmps196
  go_wp2
  go_ret
  exact ⟨rfl, rfl⟩

/-- Less, alike, greater. -/
noncomputable def cmpV (x y : ByteArray) : Int := if ltB x y = true then -1 else open Classical in if x = y then 0 else 1

set_option maxHeartbeats 2000000 in
theorem cCompare (x y : ByteArray) (w : World) : Calls Tryz.prog 179 #[.string x, .string y] w fun e w' => e = .returned (.int .i64 (cmpV x y)) ∧ w' = w := by
  have C1 := hid (fun wx => cIsNaN x wx)
  have C2 := hid (fun wx => cIsNaN y wx)
  obtain ⟨V, hV⟩ : ∃ V, cmpV x y = V := ⟨_, rfl⟩
  rw [hV]
  cases h1 : ltB x y with
  | true =>
    have HV := hid (show V = -1 by rw [← hV]; unfold cmpV; rw [if_pos h1])
    clear hV
    unfold ltB at h1
    go_enter Tryz.func179, Tryz.ntmps179
    go_wp2_with fail
    refine (C1.out _).mono ?_
    rintro e w1 ⟨rfl, rfl⟩
    go_wp2_with fail
    refine (C2.out _).mono ?_
    rintro e w2 ⟨rfl, rfl⟩
    go_wp2_with fail
    go_ret
    exact ⟨by rw [HV.out]; rfl, rfl⟩
  | false =>
    by_cases h2 : x = y
    · have HV := hid (show V = 0 by rw [← hV]; unfold cmpV; rw [if_neg (by rw [h1]; exact Bool.false_ne_true), if_pos h2])
      have h3 : (x.toList == y.toList) = true := by rw [str_beq]; exact decide_eq_true h2
      have h4 : (x.toList != y.toList) = false := by unfold bne; rw [h3]; rfl
      clear hV h2
      unfold ltB at h1
      go_enter Tryz.func179, Tryz.ntmps179
      go_wp2_with fail
      refine (C1.out _).mono ?_
      rintro e w1 ⟨rfl, rfl⟩
      go_wp2_with fail
      refine (C2.out _).mono ?_
      rintro e w2 ⟨rfl, rfl⟩
      go_wp2_with fail
      go_ret
      exact ⟨by rw [HV.out]; rfl, rfl⟩
    · have HV := hid (show V = 1 by rw [← hV]; unfold cmpV; rw [if_neg (by rw [h1]; exact Bool.false_ne_true), if_neg h2])
      have h3 : (x.toList == y.toList) = false := by rw [str_beq]; exact decide_eq_false h2
      have h4 : (x.toList != y.toList) = true := by unfold bne; rw [h3]; rfl
      clear hV h2
      unfold ltB at h1
      go_enter Tryz.func179, Tryz.ntmps179
      go_wp2_with fail
      refine (C1.out _).mono ?_
      rintro e w1 ⟨rfl, rfl⟩
      go_wp2_with fail
      refine (C2.out _).mono ?_
      rintro e w2 ⟨rfl, rfl⟩
      go_wp2_with fail
      go_ret
      exact ⟨by rw [HV.out]; rfl, rfl⟩

/-- The first that is not nothing. -/
def orV (a b : Int) : Int := if a = 0 then b else a

set_option maxHeartbeats 2000000 in
theorem cOr (g : Nat) (a b : Int) (w : World) (h1 : w.cell? ⟨g, 0, none⟩ = some (.int .i64 a)) (h2 : w.cell? ⟨g, 1, none⟩ = some (.int .i64 b)) :
    Calls Tryz.prog 178 #[.slice (some ⟨g, 0, none⟩) 2 2] w fun e w' => e = .returned (.int .i64 (orV a b)) ∧ w' = w := by
  obtain ⟨V, hV⟩ : ∃ V, orV a b = V := ⟨_, rfl⟩
  rw [hV]
  by_cases ha : a = 0
  · by_cases hb : b = 0
    · have HV := hid (show V = 0 by rw [← hV]; unfold orV; rw [if_pos ha, hb])
      subst ha hb
      clear hV
      go_enter Tryz.func178, Tryz.ntmps178
      go_wp2
      refine wp_loop_rounds 3 ?_
      rw [rounds_succ]
      go_wp2_with fail
      rw [rounds_succ]
      go_wp2_with fail
      rw [rounds_succ]
      go_wp2_with fail
      go_ret
      exact ⟨by rw [HV.out]; rfl, rfl⟩
    · have HV := hid (show V = b by rw [← hV]; unfold orV; rw [if_pos ha])
      subst ha
      have hb' : (b != 0) = true := by simpa using hb
      clear hV
      go_enter Tryz.func178, Tryz.ntmps178
      go_wp2
      refine wp_loop_rounds 3 ?_
      rw [rounds_succ]
      go_wp2_with fail
      rw [rounds_succ]
      go_wp2_with fail
      go_ret
      exact ⟨by rw [HV.out]; rfl, rfl⟩
  · have HV := hid (show V = a by rw [← hV]; unfold orV; rw [if_neg ha])
    have ha' : (a != 0) = true := by simpa using ha
    clear hV
    go_enter Tryz.func178, Tryz.ntmps178
    go_wp2
    refine wp_loop_rounds 3 ?_
    rw [rounds_succ]
    go_wp2_with fail
    go_ret
    exact ⟨by rw [HV.out]; rfl, rfl⟩

end Go.Proofs.YteninofjeidljaaGreat
