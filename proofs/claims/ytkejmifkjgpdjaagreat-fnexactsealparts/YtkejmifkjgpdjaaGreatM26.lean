/- Contract of nodeThere of the program. Declarations in the program: contracts of the signs of a meaning, of allSigns over them, declaredBy, meaningOk, declarationsOk. What closures of the program look up: contracts of aroundAll, nearer, lookupAt, elementThere, Meaning and Known. -/
import Derived.Test.YtkejmifkjgpdjaaGreatM25
import Derived.Test.YtkejmifkjgpdjaaGreatM8
import Derived.Test.YtkejmifkjgpdjaaGreatM14
namespace Go.Proofs.YtkejmifkjgpdjaaGreat
open Go.RowKit
set_option linter.unusedVariables false
set_option linter.unusedSimpArgs false

set_option maxHeartbeats 2000000 in
theorem cThere (a : Option Addr) (cap : Nat) (ts : List Tk) (x : Int) (w : World) (hR : TkRow w a ts) (hn : ts.length ≤ 1048576) (hz : TksSz 1048576 ts) :
    Calls Tryz.prog 57 #[.slice a ts.length cap, .int .i64 x] w fun e w' => e = .returned (.bool (hasB ts x)) ∧ Below w.heap.size w w' := by
  have C := hid (cTreeOkI a cap ts w hR hn hz)
  obtain ⟨n, hnn⟩ : ∃ n, ts.length = n := ⟨_, rfl⟩
  rw [hasB_eq hnn]
  rw [hnn] at C ⊢
  clear hR hz hn hnn
  generalize treeB ts = B at *
  cases q1 : decide (0 ≤ x)
  · rw [Bool.false_and, Bool.and_false]
    go_enter Tryz.func57, Tryz.ntmps57
    go_wp2_with fail
    go_ret
    exact ⟨rfl, Below.refl _ _⟩
  · cases q2 : decide (x < (n : Int))
    · rw [Bool.and_false, Bool.and_false]
      go_enter Tryz.func57, Tryz.ntmps57
      go_wp2_with fail
      go_ret
      exact ⟨rfl, Below.refl _ _⟩
    · rw [Bool.and_true, Bool.and_true]
      go_enter Tryz.func57, Tryz.ntmps57
      go_wp2_with fail
      refine C.out.mono ?_
      rintro e w1 ⟨rfl, hb1⟩
      have HB1 := hid hb1
      clear hb1
      go_wp2_with fail
      go_ret
      exact ⟨rfl, HB1.out⟩

end Go.Proofs.YtkejmifkjgpdjaaGreat

namespace Go.Proofs.YtkejmifkjgpdjaaGreat
open Go.RowKit
set_option linter.unusedVariables false
set_option linter.unusedSimpArgs false

/-- A sign that may stand in a meaning. -/
def inMB (c : Int) : Bool := (decide (97 ≤ c) && decide (c ≤ 122)) || (decide (48 ≤ c) && decide (c ≤ 57)) || decide (c = 47) || decide (c = 46)

theorem inMB_all : ∀ n : Fin 256, inB sgnS (UInt8.ofNat n.val) = inMB (n.val : Int) := by decide +kernel

theorem inMB_is (c : UInt8) : inB sgnS c = inMB c.toNat := by
  have h := inMB_all ⟨c.toNat, c.toNat_lt⟩
  have e : UInt8.ofNat c.toNat = c := by simp
  rw [e] at h
  exact h

theorem cDigit (c : Int) (w : World) (h0 : 0 ≤ c) (h1 : c ≤ 255) :
    Calls Tryz.prog 118 #[.int .u8 c] w fun e w' => e = .returned (.bool (decide (48 ≤ c) && decide (c ≤ 57))) ∧ w' = w := by
  go_enter Tryz.func118, Tryz.ntmps118
  go_wp2
  all_goals go_ret
  all_goals exact ⟨ret_bool (by rw [Bool.eq_iff_iff]; simp; try omega), rfl⟩

set_option maxHeartbeats 1000000 in
theorem cInMeaning (c : Int) (w : World) (h0 : 0 ≤ c) (h1 : c ≤ 255) :
    Calls Tryz.prog 134 #[.int .u8 c] w fun e w' => e = .returned (.bool (inMB c)) ∧ w' = w := by
  go_enter Tryz.func134, Tryz.ntmps134
  go_wp2_with (go_at_call 118; refine (cDigit _ _ h0 h1).mono ?_; rintro e w' ⟨rfl, rfl⟩)
  all_goals go_ret
  all_goals exact ⟨ret_bool (by rw [Bool.eq_iff_iff]; simp [inMB]; try omega), rfl⟩

/-- All signs may stand in a meaning. -/
def allM (l : List UInt8) : Bool := l.all fun c => inMB c.toNat

theorem allM_is (l : List UInt8) : (l.all fun c => sgnS.data.toList.any fun d => decide (d = c)) = allM l := by
  unfold allM
  congr 1
  funext c
  exact inMB_is c

theorem allM_snoc (s : ByteArray) (k : Nat) (h : k < s.size) : allM (s.data.toList.take (k + 1)) = (allM (s.data.toList.take k) && inMB s[k].toNat) := by
  unfold allM
  rw [take_snoc s k h, List.all_append]
  simp

theorem allM_no (s : ByteArray) (k : Nat) (h : k < s.size) (hc : inMB s[k].toNat = false) : allM s.data.toList = false := by
  cases hA : allM s.data.toList with
  | false => rfl
  | true =>
    have := List.all_eq_true.1 hA s[k] (List.getElem_mem _)
    rw [hc] at this
    cases this

set_option maxHeartbeats 1000000 in
theorem cAllMeaning (s : ByteArray) (w : World) (hs : s.size ≤ 1048576) :
    Calls Tryz.prog 88 #[.string s, .func (.func 134) #[] #[]] w fun e w' => e = .returned (.bool (allM s.data.toList)) ∧ w' = w := by
  go_enter Tryz.func88, Tryz.ntmps88
  go_wp2
  go_loop [8] (fun i => ∃ k : Nat, k ≤ s.size ∧ i = .int .i64 k ∧ Hid (allM (s.data.toList.take k) = true)) (fun i => s.size - (intOf i).toNat)
  case atStart => exact ⟨0, Nat.zero_le _, rfl, rfl⟩
  case round =>
    obtain ⟨k, hk, rfl, HP⟩ := hrel
    by_cases hlt : k < s.size
    · have hb : (s[k].toNat : Int) ≤ 255 := by have := s[k].toNat_lt; omega
      cases hc : inMB s[k].toNat
      · go_wp2_with (go_at_call 134; refine (cInMeaning _ _ (by omega) hb).mono ?_; rintro e w' ⟨rfl, rfl⟩)
        go_ret
        exact ⟨ret_bool (allM_no s k hlt hc).symm, rfl⟩
      · go_wp2_with (go_at_call 134; refine (cInMeaning _ _ (by omega) hb).mono ?_; rintro e w' ⟨rfl, rfl⟩)
        go_round
        case rel => exact ⟨k + 1, by omega, by go_num, by show allM _ = true; rw [allM_snoc s k hlt, HP.out, hc]; rfl⟩
        case measure => simp [intOf]; omega
    · go_wp2
      go_ret
      exact ⟨ret_bool (by rw [← take_full s k hlt]; exact HP.out.symm), rfl⟩

/-- What a declaration of this prefix says is right. -/
def saysB (p v : ByteArray) : Bool := ofB sgnS 20 v && (decide (p.size = 0) || !decide (v.size = 0))

set_option maxHeartbeats 2000000 in
theorem cMeaningOk (p v : ByteArray) (w : World) (hp : p.size ≤ 1048576) (hv : v.size ≤ 1048576) :
    Calls Tryz.prog 111 #[.string p, .string v] w fun e w' => e = .returned (.bool (saysB p v)) ∧ w' = w := by
  have C := hid (fun wx => cAllMeaning v wx hv)
  have e1 : saysB p v = ((decide (v.size ≤ 20) && allM v.data.toList) && (decide (p.size = 0) || !decide (v.size = 0))) := by
    unfold saysB ofB
    rw [allM_is, Bool.and_comm (allM v.data.toList)]
  rw [e1]
  have EP := empty_is p
  have EV := empty_is v
  clear e1
  generalize allM v.data.toList = M at *
  generalize decide (p.size = 0) = D at *
  generalize decide (v.size = 0) = F at *
  by_cases h20 : v.size ≤ 20
  · rw [decide_eq_true h20]
    have h20' : (v.size : Int) ≤ 20 := by omega
    cases D
    · cases F
      · go_enter Tryz.func111, Tryz.ntmps111
        go_wp2_with fail
        refine (C.out _).mono ?_
        rintro e w1 ⟨rfl, rfl⟩
        go_wp2_with fail
        go_ret
        exact ⟨by simp, rfl⟩
      · go_enter Tryz.func111, Tryz.ntmps111
        go_wp2_with fail
        go_ret
        exact ⟨by simp, rfl⟩
    · go_enter Tryz.func111, Tryz.ntmps111
      go_wp2_with fail
      refine (C.out _).mono ?_
      rintro e w1 ⟨rfl, rfl⟩
      go_wp2_with fail
      go_ret
      exact ⟨by simp, rfl⟩
  · rw [decide_eq_false h20]
    have h20' : ¬ (v.size : Int) ≤ 20 := by omega
    cases D
    · cases F
      · go_enter Tryz.func111, Tryz.ntmps111
        go_wp2_with fail
        go_ret
        exact ⟨by simp, rfl⟩
      · go_enter Tryz.func111, Tryz.ntmps111
        go_wp2_with fail
        go_ret
        exact ⟨by simp, rfl⟩
    · go_enter Tryz.func111, Tryz.ntmps111
      go_wp2_with fail
      go_ret
      exact ⟨by simp, rfl⟩

theorem cPartsI (s : ByteArray) (w : World) (h0 : s.size ≤ 1048576) :
    Calls Tryz.prog 84 #[.string s] w fun e w' => e = .returned (.tuple #[.string (preS s), .string (locS s)]) ∧ Below w.heap.size w w' := c_impl_Parts s w h0

set_option maxHeartbeats 2000000 in
theorem cDeclaredBy (x : At) (w : World) (hz : x.name.size ≤ 1048576) :
    Calls Tryz.prog 110 #[.agg #[.string x.name, .string x.value]] w fun e w' => e = .returned (.tuple #[.string ((declF x).getD ⟨#[]⟩), .bool (declF x).isSome]) ∧ Below w.heap.size w w' := by
  have HB := hid ((Below.refl w.heap.size w).alloc (Nat.le_refl _) (.cells #[.string x.name, .string x.value] 62))
  by_cases h1 : x.name = nsS
  · have HE := hid (show declF x = some ⟨#[]⟩ by unfold declF; rw [if_pos h1])
    rw [HE.out]
    have hd : (x.name.toList == [110, 115]) = true := by rw [ns_beq]; exact decide_eq_true h1
    clear h1
    generalize x.name = n at *
    generalize x.value = v at *
    go_enter Tryz.func110, Tryz.ntmps110
    go_wp2_with fail
    go_ret2
    exact ⟨rfl, HB.out⟩
  · have hd : (x.name.toList == [110, 115]) = false := by rw [ns_beq]; exact decide_eq_false h1
    have C := hid (fun wx => cPartsI x.name wx hz)
    by_cases h2 : preS x.name = nsS
    · have HE := hid (show declF x = some (locS x.name) by unfold declF; rw [if_neg h1, if_pos h2])
      rw [HE.out]
      have hd2 : ((preS x.name).toList == [110, 115]) = true := by rw [ns_beq]; exact decide_eq_true h2
      clear h1 h2 HE
      generalize preS x.name = P at *
      generalize locS x.name = L at *
      generalize x.name = n at *
      generalize x.value = v at *
      go_enter Tryz.func110, Tryz.ntmps110
      go_wp2_with fail
      refine (C.out _).mono ?_
      rintro e w1 ⟨rfl, hb1⟩
      have HB1 := hid (bb HB.out hb1)
      clear hb1 C
      go_wp2_with fail
      go_ret2
      exact ⟨rfl, HB1.out⟩
    · have HE := hid (show declF x = none by unfold declF; rw [if_neg h1, if_neg h2])
      rw [HE.out]
      have hd2 : ((preS x.name).toList == [110, 115]) = false := by rw [ns_beq]; exact decide_eq_false h2
      clear h1 h2 HE
      generalize preS x.name = P at *
      generalize locS x.name = L at *
      generalize x.name = n at *
      generalize x.value = v at *
      go_enter Tryz.func110, Tryz.ntmps110
      go_wp2_with fail
      refine (C.out _).mono ?_
      rintro e w1 ⟨rfl, hb1⟩
      have HB1 := hid (bb HB.out hb1)
      clear hb1 C
      go_wp2_with fail
      go_ret2
      exact ⟨rfl, HB1.out⟩

theorem declF_sz {x : At} (hz : x.name.size ≤ 1048576) {p : ByteArray} (h : declF x = some p) : p.size ≤ 1048576 := by
  unfold declF at h
  split at h
  · cases h; exact Nat.zero_le _
  · split at h
    · cases h; exact locS_sz hz
    · cases h

set_option maxRecDepth 4000 in
set_option maxHeartbeats 2000000 in
theorem cDeclsOk (a : Option Addr) (cap : Nat) (l : List At) (w : World) (hR : AtRow w a l) (hz : AtSz 1048576 l) (hn : l.length ≤ 1048576) :
    Calls Tryz.prog 82 #[.slice a l.length cap] w fun e w' => e = .returned (.bool (l.all rightB)) ∧ Below w.heap.size w w' := by
  obtain ⟨V, hV⟩ : ∃ V, l.all rightB = V := ⟨_, rfl⟩
  have HV := hid hV
  rw [hV]
  clear hV
  have HR := hid hR
  have HZ := hid hz
  clear hR hz
  obtain ⟨n, hnn⟩ : ∃ n, l.length = n := ⟨_, rfl⟩
  have HN := hid hnn
  rw [hnn] at hn ⊢
  clear hnn
  go_enter Tryz.func82, Tryz.ntmps82
  go_wp2_with fail
  go_loopw [9] (fun k wr => ∃ i : Nat, k = .int .i64 (i : Int) ∧ i ≤ n ∧ Hid ((l.take i).all rightB = true) ∧ Hid (Below w.heap.size w wr)) (fun k _ => n - (intOf k).toNat)
  case atStart => exact ⟨0, rfl, Nat.zero_le _, rfl, Below.refl _ _⟩
  case round =>
    obtain ⟨i, rfl, hi, HO, HB⟩ := hrel
    by_cases hlt : i < n
    · have his : i < l.length := by rw [HN.out]; exact hlt
      obtain ⟨b, o, rfl, hb, c1, c2⟩ := HR.out.below HB.out i his
      have hin : (i : Int) < (n : Int) := by omega
      have HT := hid (take_snocN his)
      have HMEM := hid (List.getElem_mem his)
      have HS := hid (HZ.out _ (List.getElem_mem his))
      obtain ⟨y, hy⟩ : ∃ y, l[i] = y := ⟨_, rfl⟩
      rw [hy] at c1 c2 HT HS HMEM
      clear hy
      have CD := hid (fun wx => cDeclaredBy y wx HS.out.1)
      have HBX := hid (HB.out.alloc HB.out.size (.cells #[.string y.name, .string y.value] 62))
      have HBOX := hid (box_two wr (.string y.name) (.string y.value) 62)
      have HBAD := hid (show rightB y = false → V = false from fun h => by
        rw [← HV.out]
        cases hA : l.all rightB with
        | false => rfl
        | true =>
          have := List.all_eq_true.1 hA y HMEM.out
          rw [h] at this
          cases this)
      have HNX := hid (show rightB y = true → (l.take (i + 1)).all rightB = true from fun h => by rw [HT.out, List.all_append, HO.out]; simp [h])
      go_wp2_with fail
      refine (CD.out _).mono ?_
      rintro e w1 ⟨rfl, hb1⟩
      have HB1 := hid (bb HBX.out hb1)
      have d1 := (hb1.cell (p := ⟨wr.heap.size, 0, none⟩) HBOX.out.2.2).trans HBOX.out.1
      have d2 := (hb1.cell (p := ⟨wr.heap.size, 1, none⟩) HBOX.out.2.2).trans HBOX.out.2.1
      clear hb1 HBX HBOX CD c1 c2
      cases hd : declF y with
      | none =>
        have HN2 := hid (HNX.out (by unfold rightB; rw [hd]))
        clear hd
        go_wp2_with fail
        go_roundw
        case rel => exact ⟨i + 1, by go_num, by omega, HN2.out, HB1.out⟩
        case measure => simp [intOf]; omega
      | some q =>
        have CM := hid (fun wx => cMeaningOk q y.value wx (declF_sz HS.out.1 hd) HS.out.2)
        have HRI := hid (show rightB y = saysB q y.value by unfold rightB saysB; rw [hd])
        clear hd
        cases hr : rightB y with
        | false =>
          rw [← HRI.out, hr] at CM
          have HF := hid (HBAD.out hr)
          clear hr
          go_wp2_with fail
          refine (CM.out _).mono ?_
          rintro e w2 ⟨rfl, rfl⟩
          go_wp2_with fail
          go_ret
          exact ⟨by rw [HF.out]; rfl, HB1.out⟩
        | true =>
          rw [← HRI.out, hr] at CM
          have HN2 := hid (HNX.out hr)
          clear hr
          go_wp2_with fail
          refine (CM.out _).mono ?_
          rintro e w2 ⟨rfl, rfl⟩
          go_wp2_with fail
          go_roundw
          case rel => exact ⟨i + 1, by go_num, by omega, HN2.out, HB1.out⟩
          case measure => simp [intOf]; omega
    · have hie : i = n := by omega
      subst hie
      have HF := hid (show V = true by
        rw [← HV.out]
        have h := HO.out
        rw [List.take_of_length_le (by rw [HN.out]; exact Nat.le_refl _)] at h
        exact h)
      go_wp2_with fail
      go_ret
      exact ⟨by rw [HF.out]; rfl, HB.out⟩

end Go.Proofs.YtkejmifkjgpdjaaGreat

namespace Go.Proofs.YtkejmifkjgpdjaaGreat
open Go.RowKit
set_option linter.unusedVariables false
set_option linter.unusedSimpArgs false

/-- What a prefix means by these, if they are right. -/
noncomputable def lookL (l : List At) (p : ByteArray) : Option ByteArray := match l.find? (declB p) with | some x => some x.value | none => if p.size = 0 then some ⟨#[]⟩ else none

theorem meanL_look {l : List At} (p : ByteArray) (h : l.all rightB = true) : meanL l p = lookL l p := by
  unfold meanL lookL
  rw [if_pos h]
  rfl

theorem meanL_not {l : List At} (p : ByteArray) (h : l.all rightB = false) : meanL l p = none := by unfold meanL; rw [if_neg (by rw [h]; exact Bool.false_ne_true)]

theorem lookL_hit {l ls : List At} {p : ByteArray} {i : Nat} (h : i < l.length) (h0 : (l.take i).find? (declB p) = none) (h1 : declB p l[i] = true) : lookL (l ++ ls) p = some l[i].value := by
  have e : l.find? (declB p) = some l[i] := by
    rw [List.find?_eq_some_iff_getElem]
    refine ⟨h1, i, h, rfl, fun j hj => ?_⟩
    have h2 := List.find?_eq_none.1 h0 l[j] (List.mem_take_iff_getElem.2 ⟨j, by omega, rfl⟩)
    simpa using h2
  unfold lookL
  rw [List.find?_append, e]
  rfl

theorem lookL_none {l : List At} (ls : List At) {p : ByteArray} (h : l.find? (declB p) = none) : lookL (l ++ ls) p = lookL ls p := by
  unfold lookL
  rw [List.find?_append, h]
  rfl

theorem find_snoc {l : List At} {p : ByteArray} {i : Nat} (h : i < l.length) (h0 : (l.take i).find? (declB p) = none) (h1 : declB p l[i] = false) : (l.take (i + 1)).find? (declB p) = none := by
  rw [take_snocN h, List.find?_append, h0]
  simp [h1]

/-- A function with what it holds that looks up by these, from a world on. -/
def Asks (F : FuncId) (C : Array Value) (w : World) (l : List At) : Prop :=
  (∀ p (wx : World), (callFunc F (#[.string p] ++ C)).run Tryz.prog wx = .ok (.enter F (#[.string p] ++ C)) wx) ∧
  ∀ p (wx : World), Below w.heap.size w wx → p.size ≤ 1048576 → Calls Tryz.prog F (#[.string p] ++ C) wx fun e w' => e = .returned (.tuple #[.string ((lookL l p).getD ⟨#[]⟩), .bool (lookL l p).isSome]) ∧ Below wx.heap.size wx w'

theorem Asks.below {F : FuncId} {C : Array Value} {w w' : World} {l : List At} (h : Asks F C w l) (hb : Below w.heap.size w w') : Asks F C w' l := ⟨h.1, fun p wx hx hp => h.2 p wx (bb hb hx) hp⟩

theorem enters {f : FuncId} {fn : Func} {c : Code} (hf : Tryz.prog.funcs[f]? = some fn) (hname : (fn.name == "runtime.NumGoroutine") = false) (hb : fn.body = some c) (args : Array Value) (w : World) :
    (callFunc f args).run Tryz.prog w = .ok (.enter f args) w := by
  have h1 : fn.name ≠ "runtime.NumGoroutine" := by simpa using hname
  simp [callFunc, hf, h1, hb]

theorem cAround (w : World) : Asks 60 #[] w [] := by
  refine ⟨fun p wx => enters Tryz.func60 (by kernel_rfl) rfl _ wx, fun p wx hb hp => ?_⟩
  show Calls Tryz.prog 60 #[.string p] wx _
  have e1 : (lookL [] p).getD ⟨#[]⟩ = ⟨#[]⟩ := by
    unfold lookL
    simp only [List.find?_nil]
    split <;> rfl
  have e2 : (lookL [] p).isSome = decide (p.size = 0) := by
    unfold lookL
    simp only [List.find?_nil]
    split
    · rename_i h; rw [decide_eq_true h]; rfl
    · rename_i h; rw [decide_eq_false h]; rfl
  rw [e1, e2]
  have E := empty_is p
  generalize decide (p.size = 0) = D at *
  clear e1 e2
  go_enter Tryz.func60, Tryz.ntmps60
  go_wp2_with fail
  go_ret2
  exact ⟨rfl, Below.refl _ _⟩

set_option maxRecDepth 4000 in
set_option maxHeartbeats 2000000 in
theorem cNearer1 (p : ByteArray) (g1 g2 : Nat) (a : Option Addr) (cap : Nat) (l : List At) (F : FuncId) (C : Array Value) (ls : List At) (w : World) (hp : p.size ≤ 1048576) (hA : Asks F C w ls)
    (c1 : w.cell? ⟨g1, 0, none⟩ = some (.slice a l.length cap)) (c2 : w.cell? ⟨g2, 0, none⟩ = some (.func (.func F) #[] C)) (h1 : g1 < w.heap.size) (h2 : g2 < w.heap.size) (hR : AtRow w a l) (hz : AtSz 1048576 l) (hn : l.length ≤ 1048576) :
    Calls Tryz.prog 112 #[.string p, .pointer (some ⟨g1, 0, none⟩), .pointer (some ⟨g2, 0, none⟩)] w fun e w' => e = .returned (.tuple #[.string ((lookL (l ++ ls) p).getD ⟨#[]⟩), .bool (lookL (l ++ ls) p).isSome]) ∧ Below w.heap.size w w' := by
  obtain ⟨V, hV⟩ : ∃ V, lookL (l ++ ls) p = V := ⟨_, rfl⟩
  have HV := hid hV
  rw [hV]
  clear hV
  have HR := hid hR
  have HZ := hid hz
  have HC2 := hid c2
  have H2 := hid h2
  have HA := hid hA
  clear hR hz c2 h2 hA
  obtain ⟨n, hnn⟩ : ∃ n, l.length = n := ⟨_, rfl⟩
  have HN := hid hnn
  rw [hnn] at hn c1
  clear hnn
  go_enter Tryz.func112, Tryz.ntmps112
  go_wp2_with fail
  go_loopw [12] (fun k wr => ∃ i : Nat, k = .int .i64 (i : Int) ∧ i ≤ n ∧ Hid ((l.take i).find? (declB p) = none) ∧ Hid (Below w.heap.size w wr)) (fun k _ => n - (intOf k).toNat)
  case atStart => exact ⟨0, rfl, Nat.zero_le _, rfl, Below.refl _ _⟩
  case round =>
    clear c1 h1
    obtain ⟨i, rfl, hi, HO, HB⟩ := hrel
    by_cases hlt : i < n
    · have his : i < l.length := by rw [HN.out]; exact hlt
      obtain ⟨b, o, rfl, hb, c1, c2⟩ := HR.out.below HB.out i his
      have hin : (i : Int) < (n : Int) := by omega
      have HS := hid (HZ.out _ (List.getElem_mem his))
      have HIT := hid (show declB p l[i] = true → V = some l[i].value from fun h => by rw [← HV.out]; exact lookL_hit his HO.out h)
      have HNX := hid (show declB p l[i] = false → (l.take (i + 1)).find? (declB p) = none from fun h => find_snoc his HO.out h)
      obtain ⟨y, hy⟩ : ∃ y, l[i] = y := ⟨_, rfl⟩
      rw [hy] at c1 c2 HS HIT HNX
      clear hy
      have CD := hid (fun wx => cDeclaredBy y wx HS.out.1)
      have CC := hid (fun wx => c_strings_Clone y.value wx HS.out.2)
      have HBX := hid (HB.out.alloc HB.out.size (.cells #[.string y.name, .string y.value] 62))
      have HBOX := hid (box_two wr (.string y.name) (.string y.value) 62)
      go_wp2_with fail
      refine (CD.out _).mono ?_
      rintro e w1 ⟨rfl, hb1⟩
      have HB1 := hid (bb HBX.out hb1)
      have d1 := (hb1.cell (p := ⟨wr.heap.size, 0, none⟩) HBOX.out.2.2).trans HBOX.out.1
      have d2 := (hb1.cell (p := ⟨wr.heap.size, 1, none⟩) HBOX.out.2.2).trans HBOX.out.2.1
      clear hb1 HBX HBOX CD c1 c2
      cases hd : declF y with
      | none =>
        have HN2 := hid (HNX.out (by unfold declB; rw [hd]; simp))
        clear hd
        go_wp2_with fail
        go_roundw
        case rel => exact ⟨i + 1, by go_num, by omega, HN2.out, HB1.out⟩
        case measure => simp [intOf]; omega
      | some q =>
        by_cases hq : q = p
        · have hqq : (q.toList == p.toList) = true := by rw [str_beq]; exact decide_eq_true hq
          have HF := hid (HIT.out (by unfold declB; rw [hd, hq]; simp))
          clear hd hq
          go_wp2_with fail
          refine (CC.out _).mono ?_
          rintro e w2 ⟨rfl, hb2⟩
          have HB2 := hid (bb HB1.out hb2)
          clear hb2
          go_wp2_with fail
          go_ret2
          exact ⟨by rw [HF.out]; rfl, HB2.out⟩
        · have hqq : (q.toList == p.toList) = false := by rw [str_beq]; exact decide_eq_false hq
          have HN2 := hid (HNX.out (by unfold declB; rw [hd]; simp [hq]))
          clear hd hq
          go_wp2_with fail
          go_roundw
          case rel => exact ⟨i + 1, by go_num, by omega, HN2.out, HB1.out⟩
          case measure => simp [intOf]; omega
    · have hie : i = n := by omega
      subst hie
      have HF := hid (show lookL ls p = V by
        rw [← HV.out]
        have h := HO.out
        rw [List.take_of_length_le (by rw [HN.out]; exact Nat.le_refl _)] at h
        exact (lookL_none ls h).symm)
      have c2 := (HB.out.cell (p := ⟨g2, 0, none⟩) H2.out).trans HC2.out
      have he := HA.out.1 p
      have CF := hid (HA.out.2 p _ HB.out hp)
      rw [HF.out] at CF
      go_wp2_with fail
      refine CF.out.mono ?_
      rintro e w2 ⟨rfl, hb2⟩
      have HB2 := hid (bb HB.out hb2)
      clear hb2 CF
      go_wp2_with fail
      go_ret2
      exact ⟨rfl, HB2.out⟩

theorem box_both (w : World) (x y : Value) (T U : TypeId) : let w' := (w.alloc (.cells #[x] T)).alloc (.cells #[y] U)
    w'.cell? ⟨w.heap.size, 0, none⟩ = some x ∧ w'.cell? ⟨w.heap.size + 1, 0, none⟩ = some y ∧ w'.heap.size = w.heap.size + 2 := by
  refine ⟨?_, ?_, by simp⟩
  · rw [Lib.cell_of_heap (blk_alloc (heap_alloc_new w (.cells #[x] T)) (.cells #[y] U))]; rfl
  · rw [Lib.cell_of_heap (heap_two w (.cells #[x] T) (.cells #[y] U))]; rfl

set_option maxHeartbeats 2000000 in
theorem cNearer (a : Option Addr) (cap : Nat) (l : List At) (F : FuncId) (C : Array Value) (ls : List At) (w : World) (hA : Asks F C w ls) (hR : AtRow w a l) (hz : AtSz 1048576 l) (hn : l.length ≤ 1048576) :
    Calls Tryz.prog 83 #[.slice a l.length cap, .func (.func F) #[] C] w fun e w' => ∃ C', e = .returned (.func (.func 112) #[] C') ∧ Asks 112 C' w' (l ++ ls) ∧ Below w.heap.size w w' := by
  have hmf : ∀ (fn : Fn) (first cap : Array Value) (w : World), (Instr.makeFunc fn first cap).run Tryz.prog w = .ok (.func fn first cap) w := fun _ _ _ _ => rfl
  have HB := hid (((Below.refl w.heap.size w).alloc (Nat.le_refl _) (.cells #[.slice a l.length cap] 42)).alloc (by simp) (.cells #[.func (.func F) #[] C] 83))
  have HX := hid (box_both w (.slice a l.length cap) (.func (.func F) #[] C) 42 83)
  have HE := hid (show Asks 112 #[.pointer (some ⟨w.heap.size, 0, none⟩), .pointer (some ⟨w.heap.size + 1, 0, none⟩)] ((w.alloc (.cells #[.slice a l.length cap] 42)).alloc (.cells #[.func (.func F) #[] C] 83)) (l ++ ls) by
    refine ⟨fun p wx => enters Tryz.func112 (by kernel_rfl) rfl _ wx, fun p wx hb hp => ?_⟩
    obtain ⟨x1, x2, x3⟩ := HX.out
    have hw := bb HB.out hb
    refine cNearer1 p _ _ a cap l F C ls wx hp (hA.below hw) ((hb.cell (p := ⟨w.heap.size, 0, none⟩) ?_).trans x1) ((hb.cell (p := ⟨w.heap.size + 1, 0, none⟩) ?_).trans x2) ?_ ?_ (hR.below hw) hz hn
    · show w.heap.size < _; omega
    · show w.heap.size + 1 < _; omega
    · have := hb.size; omega
    · have := hb.size; omega)
  clear hA hR hz HX
  generalize l.length = n at *
  go_enter Tryz.func83, Tryz.ntmps83
  go_wp2_with fail
  go_ret
  exact ⟨_, rfl, HE.out, HB.out⟩

theorem up_drop {ts : List Tk} {c : List Nat} {m : Nat} (hm : m < c.length) {t : Tk} (h : ts[c[m]]? = some t) : upAts ts (c.drop m) = t.attrs ++ upAts ts (c.drop (m + 1)) := by
  unfold upAts
  rw [List.drop_eq_getElem_cons hm, List.flatMap_cons, h]

/-- One of the chain: what is known of it, outwards. -/
theorem chain_out {ts : List Tk} {c : List Nat} (h : ∀ m (h : m < c.length), c[m] < ts.length ∧ parI ts c[m] = kAt c (m + 1) ∧ kAt c (m + 1) < (c[m] : Int)) {m : Nat} (hm : m < c.length) :
    ∃ (x : Nat) (t : Tk), x < ts.length ∧ kAt c m = (x : Int) ∧ t.kind = kAt c (m + 1) ∧ t ∈ ts ∧ upAts ts (c.drop m) = t.attrs ++ upAts ts (c.drop (m + 1)) ∧
      ∀ wx a, TkRow wx a ts → ∃ b o aa cap, a = some ⟨b, o, none⟩ ∧ b < wx.heap.size ∧ wx.cell? ⟨b, o + x * 4, none⟩ = some (.int .i64 t.kind) ∧ wx.cell? ⟨b, o + x * 4 + 2, none⟩ = some (.slice aa t.attrs.length cap) ∧ AtRow wx aa t.attrs := by
  obtain ⟨h1, h2, h3⟩ := h m hm
  refine ⟨c[m], ts[c[m]], h1, kAt_lt hm, by rw [← parI_at h1, h2], List.getElem_mem h1, up_drop hm (List.getElem?_eq_getElem h1), fun wx a hr => ?_⟩
  obtain ⟨b, o, aa, ca, e, hb, q0, q1, q2, q3, q4⟩ := hr c[m] h1
  exact ⟨b, o, aa, ca, e, hb, q0, q2, q4⟩

set_option maxRecDepth 4000 in
set_option maxHeartbeats 4000000 in
theorem cLookupC (a : Option Addr) (cap : Nat) (ts : List Tk) (c : List Nat) (hc : ∀ m (h : m < c.length), c[m] < ts.length ∧ parI ts c[m] = kAt c (m + 1) ∧ kAt c (m + 1) < (c[m] : Int)) (hn : ts.length ≤ 1048576) (hz : TksSz 1048576 ts) :
    ∀ d m, m + d = c.length → ∀ w, TkRow w a ts → Calls Tryz.prog 49 #[.slice a ts.length cap, .int .i64 (kAt c m)] w fun e w' =>
      ∃ v, e = .returned (.tuple #[v, .bool ((upAts ts (c.drop m)).all rightB)]) ∧ ((upAts ts (c.drop m)).all rightB = true → ∃ F C, v = .func (.func F) #[] C ∧ Asks F C w' (upAts ts (c.drop m))) ∧ Below w.heap.size w w'
  | 0, m, hm, w, hR => by
    have e1 : m = c.length := by omega
    subst e1
    have e2 : upAts ts (c.drop c.length) = [] := by rw [List.drop_length]; rfl
    rw [kAt_end, e2]
    clear hR hz hc e2
    generalize ts.length = n at *
    go_enter Tryz.func49, Tryz.ntmps49
    go_wp2_with fail
    go_ret2
    exact ⟨_, rfl, fun _ => ⟨_, _, rfl, cAround _⟩, Below.refl _ _⟩
  | d + 1, m, hm, w, hR => by
    have hml : m < c.length := by omega
    have IH := hid (cLookupC a cap ts c hc hn hz d (m + 1) (by omega) w hR)
    obtain ⟨x, t, hx, ek, hk2, hts, hup, hrow⟩ := chain_out hc hml
    rw [ek, hup]
    rw [← hk2] at IH
    have hx1 : ((x : Int) == -1) = false := by simp
    have HZT := hid (hz _ hts)
    have HROW := hid (fun wx (hb : Below w.heap.size w wx) => hrow wx _ (hR.below hb))
    obtain ⟨b, o, aa, ca, rfl, hb, c0, c2, hA⟩ := hrow w _ hR
    have hxn : (x : Int) < (ts.length : Int) := by omega
    obtain ⟨R, hRR⟩ : ∃ R, upAts ts (c.drop (m + 1)) = R := ⟨_, rfl⟩
    rw [hRR] at IH ⊢
    clear hRR hup ek hk2 hts hrow hR hz hc hx
    generalize ts.length = n at *
    have HNA := hid (HZT.out.2.1)
    have CDO := hid (fun wx aa ca (h : AtRow wx aa t.attrs) => cDeclsOk aa ca t.attrs wx h HZT.out.2.2.1 HNA.out)
    have CNR := hid (fun wx aa ca F C (hF : Asks F C wx R) (h : AtRow wx aa t.attrs) => cNearer aa ca t.attrs F C R wx hF h HZT.out.2.2.1 HNA.out)
    have HAL := hid (show (t.attrs ++ R).all rightB = (t.attrs.all rightB && R.all rightB) from List.all_append)
    rw [HAL.out]
    obtain ⟨B1, hB1⟩ : ∃ B1, t.attrs.all rightB = B1 := ⟨_, rfl⟩
    obtain ⟨B2, hB2⟩ : ∃ B2, R.all rightB = B2 := ⟨_, rfl⟩
    rw [hB1] at CDO
    rw [hB2] at IH
    rw [hB1, hB2]
    obtain ⟨V, hV⟩ : ∃ V, (B1 && B2) = V := ⟨_, rfl⟩
    have HVB := hid hV
    rw [hV]
    clear hV
    clear hB1 hB2 HAL hA
    go_enter Tryz.func49, Tryz.ntmps49
    go_wp2_with fail
    refine IH.out.mono ?_
    rintro e w1 ⟨v, rfl, hv, hb1⟩
    have HB1 := hid hb1
    have HVV := hid hv
    clear hb1 hv IH c0 c2
    cases B2 with
    | false =>
      have HV0 := hid (show V = false by rw [← HVB.out, Bool.and_false])
      go_wp2_with fail
      go_ret2
      exact ⟨_, by rw [HV0.out]; rfl, fun h => (by rw [HV0.out] at h; cases h), HB1.out⟩
    | true =>
      obtain ⟨F, C, rfl, hF⟩ := HVV.out rfl
      have HF := hid hF
      clear hF HVV
      obtain ⟨b', o', aa, ca, e', hb, c0, c2, hA⟩ := HROW.out _ HB1.out
      obtain ⟨rfl, rfl⟩ : b = b' ∧ o = o' := by cases e'; exact ⟨rfl, rfl⟩
      have HA := hid hA
      clear e' hA c0
      go_wp2_with fail
      refine (CDO.out _ _ _ HA.out).mono ?_
      rintro e w2 ⟨rfl, hb2⟩
      have HB2 := hid (bb HB1.out hb2)
      have HF2 := hid (HF.out.below hb2)
      clear hb2 c2 HA hb HF
      cases B1 with
      | false =>
        have HV0 := hid (show V = false by rw [← HVB.out]; rfl)
        go_wp2_with fail
        go_ret2
        exact ⟨_, by rw [HV0.out]; rfl, fun h => (by rw [HV0.out] at h; cases h), HB2.out⟩
      | true =>
        obtain ⟨b', o', aa, ca, e', hb, c0, c2, hA⟩ := HROW.out _ HB2.out
        obtain ⟨rfl, rfl⟩ : b = b' ∧ o = o' := by cases e'; exact ⟨rfl, rfl⟩
        have HA := hid hA
        clear e' hA c0
        go_wp2_with fail
        refine (CNR.out _ _ _ _ _ HF2.out HA.out).mono ?_
        rintro e w3 ⟨C', rfl, hF3, hb3⟩
        have HB3 := hid (bb HB2.out hb3)
        have HF3 := hid hF3
        have HV0 := hid (show V = true by rw [← HVB.out]; rfl)
        clear hb3 hF3
        go_wp2_with fail
        go_ret2
        exact ⟨_, by rw [HV0.out]; rfl, fun _ => ⟨_, _, rfl, HF3.out⟩, HB3.out⟩

/-- All from one on, outwards. -/
def outAts (ts : List Tk) (k : Nat) : List At := upAts ts (chainF ts (k + 1))

theorem cLookupAt (a : Option Addr) (cap : Nat) (ts : List Tk) (k : Nat) (w : World) (hR : TkRow w a ts) (hT : TreeP ts) (hk : k < ts.length) (hn : ts.length ≤ 1048576) (hz : TksSz 1048576 ts) :
    Calls Tryz.prog 49 #[.slice a ts.length cap, .int .i64 (k : Int)] w fun e w' =>
      ∃ v, e = .returned (.tuple #[v, .bool ((outAts ts k).all rightB)]) ∧ ((outAts ts k).all rightB = true → ∃ F C, v = .func (.func F) #[] C ∧ Asks F C w' (outAts ts k)) ∧ Below w.heap.size w w' := by
  obtain ⟨h1, h2⟩ := chain_at hT hk
  have h := cLookupC a cap ts _ h1 hn hz (chainF ts (k + 1)).length 0 (by omega) w hR
  rw [h2] at h
  exact h

theorem meanF_out (ts : List Tk) (k : Nat) (p : ByteArray) : meanF ts k p = meanL (outAts ts k) p := rfl

set_option maxHeartbeats 2000000 in
theorem cElementThere (a : Option Addr) (cap : Nat) (ts : List Tk) (x : Int) (w : World) (hR : TkRow w a ts) (hn : ts.length ≤ 1048576) (hz : TksSz 1048576 ts) :
    Calls Tryz.prog 56 #[.slice a ts.length cap, .int .i64 x] w fun e w' => e = .returned (.bool (elemB ts x)) ∧ Below w.heap.size w w' := by
  have C := hid (cThere a cap ts x w hR hn hz)
  have HR := hid hR
  clear hR
  cases hh : hasB ts x with
  | false =>
    have HE := hid (show elemB ts x = false by unfold elemB; rw [hh]; rfl)
    rw [HE.out]
    rw [hh] at C
    clear hh HE HR hz
    generalize ts.length = n at *
    go_enter Tryz.func56, Tryz.ntmps56
    go_wp2_with fail
    refine C.out.mono ?_
    rintro e w1 ⟨rfl, hb1⟩
    have HB1 := hid hb1
    clear hb1 C
    go_wp2_with fail
    go_ret
    exact ⟨rfl, HB1.out⟩
  | true =>
    obtain ⟨hT, k, rfl, hk⟩ := hasB_t hh
    have HE := hid (show elemB ts (k : Int) = !decide (ts[k].name.size = 0) by unfold elemB; rw [hh]; show (true && !decide ((nameI ts k).size = 0)) = _; rw [nameI_at hk]; rfl)
    rw [HE.out]
    rw [hh] at C
    have HROW := hid (fun wx (hb : Below w.heap.size w wx) => (HR.out.below hb) k hk)
    obtain ⟨b, o, _, _, ea, -⟩ := HR.out k hk
    subst ea
    have hkn : (k : Int) < (ts.length : Int) := by omega
    have CI := hid (fun wx aa nA ca => cIsText ts[k].kind ts[k].name aa nA ca ts[k].text wx (hz _ (List.getElem_mem hk)).1)
    clear hh HE HR hz hT
    generalize decide (ts[k].name.size = 0) = D at *
    generalize ts[k].kind = K at *
    generalize ts[k].name = N at *
    generalize ts[k].text = T at *
    generalize ts[k].attrs = A at *
    generalize ts.length = n at *
    go_enter Tryz.func56, Tryz.ntmps56
    go_wp2_with fail
    refine C.out.mono ?_
    rintro e w1 ⟨rfl, hb1⟩
    obtain ⟨b', o', aa, ca, e', hb, q0, q1, q2, q3, _⟩ := HROW.out _ hb1
    obtain ⟨rfl, rfl⟩ : b = b' ∧ o = o' := by cases e'; exact ⟨rfl, rfl⟩
    have HB1 := hid hb1
    clear hb1 C e' HROW
    go_wp2_with fail
    refine (CI.out _ _ _ _).mono ?_
    rintro e w2 ⟨rfl, hb2⟩
    have HB2 := hid (bb HB1.out hb2)
    clear hb2
    go_wp2_with fail
    go_ret
    exact ⟨rfl, HB2.out⟩

set_option maxHeartbeats 2000000 in
theorem cMeaningI (a : Option Addr) (cap : Nat) (ts : List Tk) (x : Int) (p : ByteArray) (w : World) (hR : TkRow w a ts) (hn : ts.length ≤ 1048576) (hz : TksSz 1048576 ts) (hp : p.size ≤ 1048576) :
    Calls Tryz.prog 119 #[.slice a ts.length cap, .int .i64 x, .string p] w fun e w' => e = .returned (.tuple #[.string ((meanI ts x p).getD ⟨#[]⟩), .bool (meanI ts x p).isSome]) ∧ Below w.heap.size w w' := by
  have C := hid (cElementThere a cap ts x w hR hn hz)
  cases hh : elemB ts x with
  | false =>
    have HE := hid (show meanI ts x p = none by unfold meanI; rw [hh]; rfl)
    rw [HE.out]
    rw [hh] at C
    clear hh HE hR hz
    generalize ts.length = n at *
    go_enter Tryz.func119, Tryz.ntmps119
    go_wp2_with fail
    refine C.out.mono ?_
    rintro e w1 ⟨rfl, hb1⟩
    have HB1 := hid hb1
    clear hb1 C
    go_wp2_with fail
    go_ret2
    exact ⟨rfl, HB1.out⟩
  | true =>
    obtain ⟨hT, k, rfl, hk⟩ := elemB_t hh
    have HE := hid (show meanI ts (k : Int) p = meanL (outAts ts k) p by unfold meanI; rw [hh]; rfl)
    rw [HE.out]
    rw [hh] at C
    have CL := hid (fun wx (hb : Below w.heap.size w wx) => cLookupAt a cap ts k wx (hR.below hb) hT hk hn hz)
    clear hh HE hR hz hT hk
    generalize outAts ts k = L at *
    generalize ts.length = n at *
    obtain ⟨B, hB⟩ : ∃ B, L.all rightB = B := ⟨_, rfl⟩
    rw [hB] at CL
    have HBB := hid hB
    clear hB
    obtain ⟨V, hV⟩ : ∃ V, meanL L p = V := ⟨_, rfl⟩
    have HVV0 := hid hV
    rw [hV]
    clear hV
    go_enter Tryz.func119, Tryz.ntmps119
    go_wp2_with fail
    refine C.out.mono ?_
    rintro e w1 ⟨rfl, hb1⟩
    have CL1 := hid (CL.out _ hb1)
    have HB1 := hid hb1
    clear hb1 C CL
    go_wp2_with fail
    refine CL1.out.mono ?_
    rintro e w2 ⟨v, rfl, hv, hb2⟩
    have HB2 := hid (bb HB1.out hb2)
    have HVV := hid hv
    clear hb2 CL1 hv
    cases B with
    | false =>
      have HV0 := hid (show V = none by rw [← HVV0.out]; exact meanL_not p HBB.out)
      go_wp2_with fail
      go_ret2
      exact ⟨by rw [HV0.out]; rfl, HB2.out⟩
    | true =>
      have HV0 := hid (show lookL L p = V by rw [← HVV0.out]; exact (meanL_look p HBB.out).symm)
      obtain ⟨F, CC, rfl, hF⟩ := HVV.out rfl
      have he := hF.1 p
      have CF := hid (hF.2 p _ (Below.refl _ _) hp)
      clear hF HVV
      rw [HV0.out] at CF
      go_wp2_with fail
      refine CF.out.mono ?_
      rintro e w3 ⟨rfl, hb3⟩
      have HB3 := hid (bb HB2.out hb3)
      clear hb3 CF
      go_wp2_with fail
      go_ret2
      exact ⟨rfl, HB3.out⟩

theorem meanI_el {ts : List Tk} {k : Nat} {p : ByteArray} (h : elemB ts (k : Int) = true) : meanI ts (k : Int) p = meanF ts k p := by unfold meanI; rw [h]; rfl

set_option maxHeartbeats 2000000 in
theorem cKnownI (a : Option Addr) (cap : Nat) (ts : List Tk) (x : Int) (l m : ByteArray) (w : World) (hR : TkRow w a ts) (hn : ts.length ≤ 1048576) (hz : TksSz 1048576 ts) (hl : l.size ≤ 1048576) (hm : m.size ≤ 1048576) :
    Calls Tryz.prog 90 #[.slice a ts.length cap, .int .i64 x, .string l, .string m] w fun e w' => e = .returned (.bool (knownI ts x l m)) ∧ Below w.heap.size w w' := by
  have C := hid (cElementThere a cap ts x w hR hn hz)
  cases hh : elemB ts x with
  | false =>
    have HE := hid (show knownI ts x l m = false by unfold knownI; rw [hh]; rfl)
    rw [HE.out]
    rw [hh] at C
    clear hh HE hR hz
    generalize ts.length = n at *
    go_enter Tryz.func90, Tryz.ntmps90
    go_wp2_with fail
    refine C.out.mono ?_
    rintro e w1 ⟨rfl, hb1⟩
    have HB1 := hid hb1
    clear hb1 C
    go_wp2_with fail
    go_ret
    exact ⟨rfl, HB1.out⟩
  | true =>
    obtain ⟨hT, k, rfl, hk⟩ := elemB_t hh
    have HE := hid (show knownI ts (k : Int) l m = knownN ts k l m by unfold knownI; rw [hh]; rfl)
    rw [HE.out]
    rw [hh] at C
    have hzn := name_sz hz hk
    have CP := hid (fun wx => cPartsI (nameI ts k) wx hzn)
    have CM := hid (fun wx (hb : Below w.heap.size w wx) => cMeaningI a cap ts (k : Int) (preS (nameI ts k)) wx (hR.below hb) hn hz (preS_sz hzn))
    rw [meanI_el hh] at CM
    have HROW := hid (fun wx (hb : Below w.heap.size w wx) => name_row (hR.below hb) hk)
    obtain ⟨b, o, ea, -⟩ := name_row hR hk
    subst ea
    have h1 := str_beq (locS (nameI ts k)) l
    have h2 := str_beq ((meanF ts k (preS (nameI ts k))).getD ⟨#[]⟩) m
    have hkn : (k : Int) < (ts.length : Int) := by omega
    unfold knownN
    generalize (meanF ts k (preS (nameI ts k))).isSome = I at *
    generalize (meanF ts k (preS (nameI ts k))).getD ⟨#[]⟩ = G at *
    generalize preS (nameI ts k) = P at *
    generalize locS (nameI ts k) = L at *
    generalize nameI ts k = N at *
    clear hh HE hR hz hT hk hzn
    generalize ts.length = n at *
    obtain ⟨B1, hB1⟩ : ∃ B : Bool, decide (L = l) = B := ⟨_, rfl⟩
    obtain ⟨B2, hB2⟩ : ∃ B : Bool, decide (G = m) = B := ⟨_, rfl⟩
    rw [hB1] at h1
    rw [hB2] at h2
    have HQ := hid (And.intro hB1 hB2)
    clear hB1 hB2
    go_enter Tryz.func90, Tryz.ntmps90
    go_wp2_with fail
    refine C.out.mono ?_
    rintro e w1 ⟨rfl, hb1⟩
    obtain ⟨b', o', e', c1⟩ := HROW.out _ hb1
    obtain ⟨rfl, rfl⟩ : b = b' ∧ o = o' := by cases e'; exact ⟨rfl, rfl⟩
    have HB1 := hid hb1
    clear hb1 C e' HROW
    go_wp2_with fail
    refine (CP.out _).mono ?_
    rintro e w2 ⟨rfl, hb2⟩
    have HB2 := hid (bb HB1.out hb2)
    have CM2 := hid (CM.out _ HB2.out)
    clear hb2 CP CM c1
    go_wp2_with fail
    refine CM2.out.mono ?_
    rintro e w3 ⟨rfl, hb3⟩
    have HB3 := hid (bb HB2.out hb3)
    clear hb3 CM2
    cases I
    · go_wp2_with fail
      go_ret
      exact ⟨by simp, HB3.out⟩
    · cases B1
      · go_wp2_with fail
        go_ret
        exact ⟨by simp [HQ.out.1], HB3.out⟩
      · go_wp2_with fail
        go_ret
        exact ⟨by simp [HQ.out.1, HQ.out.2], HB3.out⟩

end Go.Proofs.YtkejmifkjgpdjaaGreat
