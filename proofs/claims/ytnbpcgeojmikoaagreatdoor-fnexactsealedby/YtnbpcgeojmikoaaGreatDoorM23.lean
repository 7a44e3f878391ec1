/- What closures of the program look up: contracts of aroundAll, nearer, lookupAt, elementThere, Meaning and Known. Contracts of EndOf, KidsOf and TextIn of the program. Contract of KidsOf of the program. Seals in the program: contracts of slices.Index and slices.Contains over the three names, justAttrs, digitsOk, sealAt. -/
import Derived.Test.YtnbpcgeojmikoaaGreatDoorM22
import Derived.Test.YtnbpcgeojmikoaaGreatDoorM15
import Derived.Test.YtnbpcgeojmikoaaGreatDoorM20
namespace Go.Proofs.YtnbpcgeojmikoaaGreatDoor
open Go.RowKit
set_option linter.unusedVariables false
set_option linter.unusedSimpArgs false

/-- What a prefix means by these, if they are right. -/
noncomputable def lookL (l : List At) (p : ByteArray) : Option ByteArray := match l.find? (declB p) with | some x => some x.value | none => if p.size = 0 then some ⟨#[]⟩ else none

theorem meanL_look {l : List At} (p : ByteArray) (h : l.all rightB = true) : meanL l p = lookL l p := by
  unfold meanL lookL
  rw [if_pos h]
  rfl

theorem meanL_not {l : List At} (p : ByteArray) (h : l.all rightB = false) : meanL l p = none := by unfold meanL; rw [if_neg (by rw [h]; exact Bool.false_ne_true)]

theorem lookL_hit {l ls : List At} {p : ByteArray} {i : Nat} (h : i < l.length) (h0 : (l.take i).find? (declB p) = none) (h1 : declB p l[i] = true) : lookL (l ++ ls) p = some l[i].value := by
  have e : l.find? (declB p) = some l[i] := by
    rw [List.find?_eq_some_iff_getElem]
    refine ⟨h1, i, h, rfl, fun j hj => ?_⟩
    have h2 := List.find?_eq_none.1 h0 l[j] (List.mem_take_iff_getElem.2 ⟨j, by omega, rfl⟩)
    simpa using h2
  unfold lookL
  rw [List.find?_append, e]
  rfl

theorem lookL_none {l : List At} (ls : List At) {p : ByteArray} (h : l.find? (declB p) = none) : lookL (l ++ ls) p = lookL ls p := by
  unfold lookL
  rw [List.find?_append, h]
  rfl

theorem find_snoc {l : List At} {p : ByteArray} {i : Nat} (h : i < l.length) (h0 : (l.take i).find? (declB p) = none) (h1 : declB p l[i] = false) : (l.take (i + 1)).find? (declB p) = none := by
  rw [take_snocN h, List.find?_append, h0]
  simp [h1]

/-- A function with what it holds that looks up by these, from a world on. -/
def Asks (F : FuncId) (C : Array Value) (w : World) (l : List At) : Prop :=
  (∀ p (wx : World), (callFunc F (#[.string p] ++ C)).run Tryz.prog wx = .ok (.enter F (#[.string p] ++ C)) wx) ∧
  ∀ p (wx : World), Below w.heap.size w wx → p.size ≤ 1048576 → Calls Tryz.prog F (#[.string p] ++ C) wx fun e w' => e = .returned (.tuple #[.string ((lookL l p).getD ⟨#[]⟩), .bool (lookL l p).isSome]) ∧ Below wx.heap.size wx w'

theorem Asks.below {F : FuncId} {C : Array Value} {w w' : World} {l : List At} (h : Asks F C w l) (hb : Below w.heap.size w w') : Asks F C w' l := ⟨h.1, fun p wx hx hp => h.2 p wx (bb hb hx) hp⟩

theorem enters {f : FuncId} {fn : Func} {c : Code} (hf : Tryz.prog.funcs[f]? = some fn) (hname : (fn.name == "runtime.NumGoroutine") = false) (hb : fn.body = some c) (args : Array Value) (w : World) :
    (callFunc f args).run Tryz.prog w = .ok (.enter f args) w := by
  have h1 : fn.name ≠ "runtime.NumGoroutine" := by simpa using hname
  simp [callFunc, hf, h1, hb]

theorem cAround (w : World) : Asks 133 #[] w [] := by
  refine ⟨fun p wx => enters Tryz.func133 (by kernel_rfl) rfl _ wx, fun p wx hb hp => ?_⟩
  show Calls Tryz.prog 133 #[.string p] wx _
  have e1 : (lookL [] p).getD ⟨#[]⟩ = ⟨#[]⟩ := by
    unfold lookL
    simp only [List.find?_nil]
    split <;> rfl
  have e2 : (lookL [] p).isSome = decide (p.size = 0) := by
    unfold lookL
    simp only [List.find?_nil]
    split
    · rename_i h; rw [decide_eq_true h]; rfl
    · rename_i h; rw [decide_eq_false h]; rfl
  rw [e1, e2]
  have E := empty_is p
  generalize decide (p.size = 0) = D at *
  clear e1 e2
  go_enter Tryz.func133, Tryz.ntmps133
  go_wp2_with fail
  go_ret2
  exact ⟨rfl, Below.refl _ _⟩

set_option maxRecDepth 4000 in
set_option maxHeartbeats 2000000 in
theorem cNearer1 (p : ByteArray) (g1 g2 : Nat) (a : Option Addr) (cap : Nat) (l : List At) (F : FuncId) (C : Array Value) (ls : List At) (w : World) (hp : p.size ≤ 1048576) (hA : Asks F C w ls)
    (c1 : w.cell? ⟨g1, 0, none⟩ = some (.slice a l.length cap)) (c2 : w.cell? ⟨g2, 0, none⟩ = some (.func (.func F) #[] C)) (h1 : g1 < w.heap.size) (h2 : g2 < w.heap.size) (hR : AtRow w a l) (hz : AtSz 1048576 l) (hn : l.length ≤ 1048576) :
    Calls Tryz.prog 174 #[.string p, .pointer (some ⟨g1, 0, none⟩), .pointer (some ⟨g2, 0, none⟩)] w fun e w' => e = .returned (.tuple #[.string ((lookL (l ++ ls) p).getD ⟨#[]⟩), .bool (lookL (l ++ ls) p).isSome]) ∧ Below w.heap.size w w' := by
  obtain ⟨V, hV⟩ : ∃ V, lookL (l ++ ls) p = V := ⟨_, rfl⟩
  have HV := hid hV
  rw [hV]
  clear hV
  have HR := hid hR
  have HZ := hid hz
  have HC2 := hid c2
  have H2 := hid h2
  have HA := hid hA
  clear hR hz c2 h2 hA
  obtain ⟨n, hnn⟩ : ∃ n, l.length = n := ⟨_, rfl⟩
  have HN := hid hnn
  rw [hnn] at hn c1
  clear hnn
  go_enter Tryz.func174, Tryz.ntmps174
  go_wp2_with fail
  go_loopw [12] (fun k wr => ∃ i : Nat, k = .int .i64 (i : Int) ∧ i ≤ n ∧ Hid ((l.take i).find? (declB p) = none) ∧ Hid (Below w.heap.size w wr)) (fun k _ => n - (intOf k).toNat)
  case atStart => exact ⟨0, rfl, Nat.zero_le _, rfl, Below.refl _ _⟩
  case round =>
    clear c1 h1
    obtain ⟨i, rfl, hi, HO, HB⟩ := hrel
    by_cases hlt : i < n
    · have his : i < l.length := by rw [HN.out]; exact hlt
      obtain ⟨b, o, rfl, hb, c1, c2⟩ := HR.out.below HB.out i his
      have hin : (i : Int) < (n : Int) := by omega
      have HS := hid (HZ.out _ (List.getElem_mem his))
      have HIT := hid (show declB p l[i] = true → V = some l[i].value from fun h => by rw [← HV.out]; exact lookL_hit his HO.out h)
      have HNX := hid (show declB p l[i] = false → (l.take (i + 1)).find? (declB p) = none from fun h => find_snoc his HO.out h)
      obtain ⟨y, hy⟩ : ∃ y, l[i] = y := ⟨_, rfl⟩
      rw [hy] at c1 c2 HS HIT HNX
      clear hy
      have CD := hid (fun wx => cDeclaredBy y wx HS.out.1)
      have CC := hid (fun wx => c_strings_Clone y.value wx HS.out.2)
      have HBX := hid (HB.out.alloc HB.out.size (.cells #[.string y.name, .string y.value] 70))
      have HBOX := hid (box_two wr (.string y.name) (.string y.value) 70)
      go_wp2_with fail
      refine (CD.out _).mono ?_
      rintro e w1 ⟨rfl, hb1⟩
      have HB1 := hid (bb HBX.out hb1)
      have d1 := (hb1.cell (p := ⟨wr.heap.size, 0, none⟩) HBOX.out.2.2).trans HBOX.out.1
      have d2 := (hb1.cell (p := ⟨wr.heap.size, 1, none⟩) HBOX.out.2.2).trans HBOX.out.2.1
      clear hb1 HBX HBOX CD c1 c2
      cases hd : declF y with
      | none =>
        have HN2 := hid (HNX.out (by unfold declB; rw [hd]; simp))
        clear hd
        go_wp2_with fail
        go_roundw
        case rel => exact ⟨i + 1, by go_num, by omega, HN2.out, HB1.out⟩
        case measure => simp [intOf]; omega
      | some q =>
        by_cases hq : q = p
        · have hqq : (q.toList == p.toList) = true := by rw [str_beq]; exact decide_eq_true hq
          have HF := hid (HIT.out (by unfold declB; rw [hd, hq]; simp))
          clear hd hq
          go_wp2_with fail
          refine (CC.out _).mono ?_
          rintro e w2 ⟨rfl, hb2⟩
          have HB2 := hid (bb HB1.out hb2)
          clear hb2
          go_wp2_with fail
          go_ret2
          exact ⟨by rw [HF.out]; rfl, HB2.out⟩
        · have hqq : (q.toList == p.toList) = false := by rw [str_beq]; exact decide_eq_false hq
          have HN2 := hid (HNX.out (by unfold declB; rw [hd]; simp [hq]))
          clear hd hq
          go_wp2_with fail
          go_roundw
          case rel => exact ⟨i + 1, by go_num, by omega, HN2.out, HB1.out⟩
          case measure => simp [intOf]; omega
    · have hie : i = n := by omega
      subst hie
      have HF := hid (show lookL ls p = V by
        rw [← HV.out]
        have h := HO.out
        rw [List.take_of_length_le (by rw [HN.out]; exact Nat.le_refl _)] at h
        exact (lookL_none ls h).symm)
      have c2 := (HB.out.cell (p := ⟨g2, 0, none⟩) H2.out).trans HC2.out
      have he := HA.out.1 p
      have CF := hid (HA.out.2 p _ HB.out hp)
      rw [HF.out] at CF
      go_wp2_with fail
      refine CF.out.mono ?_
      rintro e w2 ⟨rfl, hb2⟩
      have HB2 := hid (bb HB.out hb2)
      clear hb2 CF
      go_wp2_with fail
      go_ret2
      exact ⟨rfl, HB2.out⟩

theorem box_both (w : World) (x y : Value) (T U : TypeId) : let w' := (w.alloc (.cells #[x] T)).alloc (.cells #[y] U)
    w'.cell? ⟨w.heap.size, 0, none⟩ = some x ∧ w'.cell? ⟨w.heap.size + 1, 0, none⟩ = some y ∧ w'.heap.size = w.heap.size + 2 := by
  refine ⟨?_, ?_, by simp⟩
  · rw [Lib.cell_of_heap (blk_alloc (heap_alloc_new w (.cells #[x] T)) (.cells #[y] U))]; rfl
  · rw [Lib.cell_of_heap (heap_two w (.cells #[x] T) (.cells #[y] U))]; rfl

set_option maxHeartbeats 2000000 in
theorem cNearer (a : Option Addr) (cap : Nat) (l : List At) (F : FuncId) (C : Array Value) (ls : List At) (w : World) (hA : Asks F C w ls) (hR : AtRow w a l) (hz : AtSz 1048576 l) (hn : l.length ≤ 1048576) :
    Calls Tryz.prog 135 #[.slice a l.length cap, .func (.func F) #[] C] w fun e w' => ∃ C', e = .returned (.func (.func 174) #[] C') ∧ Asks 174 C' w' (l ++ ls) ∧ Below w.heap.size w w' := by
  have hmf : ∀ (fn : Fn) (first cap : Array Value) (w : World), (Instr.makeFunc fn first cap).run Tryz.prog w = .ok (.func fn first cap) w := fun _ _ _ _ => rfl
  have HB := hid (((Below.refl w.heap.size w).alloc (Nat.le_refl _) (.cells #[.slice a l.length cap] 30)).alloc (by simp) (.cells #[.func (.func F) #[] C] 114))
  have HX := hid (box_both w (.slice a l.length cap) (.func (.func F) #[] C) 30 114)
  have HE := hid (show Asks 174 #[.pointer (some ⟨w.heap.size, 0, none⟩), .pointer (some ⟨w.heap.size + 1, 0, none⟩)] ((w.alloc (.cells #[.slice a l.length cap] 30)).alloc (.cells #[.func (.func F) #[] C] 114)) (l ++ ls) by
    refine ⟨fun p wx => enters Tryz.func174 (by kernel_rfl) rfl _ wx, fun p wx hb hp => ?_⟩
    obtain ⟨x1, x2, x3⟩ := HX.out
    have hw := bb HB.out hb
    refine cNearer1 p _ _ a cap l F C ls wx hp (hA.below hw) ((hb.cell (p := ⟨w.heap.size, 0, none⟩) ?_).trans x1) ((hb.cell (p := ⟨w.heap.size + 1, 0, none⟩) ?_).trans x2) ?_ ?_ (hR.below hw) hz hn
    · show w.heap.size < _; omega
    · show w.heap.size + 1 < _; omega
    · have := hb.size; omega
    · have := hb.size; omega)
  clear hA hR hz HX
  generalize l.length = n at *
  go_enter Tryz.func135, Tryz.ntmps135
  go_wp2_with fail
  go_ret
  exact ⟨_, rfl, HE.out, HB.out⟩

theorem up_drop {ts : List Tk} {c : List Nat} {m : Nat} (hm : m < c.length) {t : Tk} (h : ts[c[m]]? = some t) : upAts ts (c.drop m) = t.attrs ++ upAts ts (c.drop (m + 1)) := by
  unfold upAts
  rw [List.drop_eq_getElem_cons hm, List.flatMap_cons, h]

/-- One of the chain: what is known of it, outwards. -/
theorem chain_out {ts : List Tk} {c : List Nat} (h : ∀ m (h : m < c.length), c[m] < ts.length ∧ parI ts c[m] = kAt c (m + 1) ∧ kAt c (m + 1) < (c[m] : Int)) {m : Nat} (hm : m < c.length) :
    ∃ (x : Nat) (t : Tk), x < ts.length ∧ kAt c m = (x : Int) ∧ t.kind = kAt c (m + 1) ∧ t ∈ ts ∧ upAts ts (c.drop m) = t.attrs ++ upAts ts (c.drop (m + 1)) ∧
      ∀ wx a, TkRow wx a ts → ∃ b o aa cap, a = some ⟨b, o, none⟩ ∧ b < wx.heap.size ∧ wx.cell? ⟨b, o + x * 4, none⟩ = some (.int .i64 t.kind) ∧ wx.cell? ⟨b, o + x * 4 + 2, none⟩ = some (.slice aa t.attrs.length cap) ∧ AtRow wx aa t.attrs := by
  obtain ⟨h1, h2, h3⟩ := h m hm
  refine ⟨c[m], ts[c[m]], h1, kAt_lt hm, by rw [← parI_at h1, h2], List.getElem_mem h1, up_drop hm (List.getElem?_eq_getElem h1), fun wx a hr => ?_⟩
  obtain ⟨b, o, aa, ca, e, hb, q0, q1, q2, q3, q4⟩ := hr c[m] h1
  exact ⟨b, o, aa, ca, e, hb, q0, q2, q4⟩

set_option maxRecDepth 4000 in
set_option maxHeartbeats 4000000 in
theorem cLookupC (a : Option Addr) (cap : Nat) (ts : List Tk) (c : List Nat) (hc : ∀ m (h : m < c.length), c[m] < ts.length ∧ parI ts c[m] = kAt c (m + 1) ∧ kAt c (m + 1) < (c[m] : Int)) (hn : ts.length ≤ 1048576) (hz : TksSz 1048576 ts) :
    ∀ d m, m + d = c.length → ∀ w, TkRow w a ts → Calls Tryz.prog 77 #[.slice a ts.length cap, .int .i64 (kAt c m)] w fun e w' =>
      ∃ v, e = .returned (.tuple #[v, .bool ((upAts ts (c.drop m)).all rightB)]) ∧ ((upAts ts (c.drop m)).all rightB = true → ∃ F C, v = .func (.func F) #[] C ∧ Asks F C w' (upAts ts (c.drop m))) ∧ Below w.heap.size w w'
  | 0, m, hm, w, hR => by
    have e1 : m = c.length := by omega
    subst e1
    have e2 : upAts ts (c.drop c.length) = [] := by rw [List.drop_length]; rfl
    rw [kAt_end, e2]
    clear hR hz hc e2
    generalize ts.length = n at *
    go_enter Tryz.func77, Tryz.ntmps77
    go_wp2_with fail
    go_ret2
    exact ⟨_, rfl, fun _ => ⟨_, _, rfl, cAround _⟩, Below.refl _ _⟩
  | d + 1, m, hm, w, hR => by
    have hml : m < c.length := by omega
    have IH := hid (cLookupC a cap ts c hc hn hz d (m + 1) (by omega) w hR)
    obtain ⟨x, t, hx, ek, hk2, hts, hup, hrow⟩ := chain_out hc hml
    rw [ek, hup]
    rw [← hk2] at IH
    have hx1 : ((x : Int) == -1) = false := by simp
    have HZT := hid (hz _ hts)
    have HROW := hid (fun wx (hb : Below w.heap.size w wx) => hrow wx _ (hR.below hb))
    obtain ⟨b, o, aa, ca, rfl, hb, c0, c2, hA⟩ := hrow w _ hR
    have hxn : (x : Int) < (ts.length : Int) := by omega
    obtain ⟨R, hRR⟩ : ∃ R, upAts ts (c.drop (m + 1)) = R := ⟨_, rfl⟩
    rw [hRR] at IH ⊢
    clear hRR hup ek hk2 hts hrow hR hz hc hx
    generalize ts.length = n at *
    have HNA := hid (HZT.out.2.1)
    have CDO := hid (fun wx aa ca (h : AtRow wx aa t.attrs) => cDeclsOk aa ca t.attrs wx h HZT.out.2.2.1 HNA.out)
    have CNR := hid (fun wx aa ca F C (hF : Asks F C wx R) (h : AtRow wx aa t.attrs) => cNearer aa ca t.attrs F C R wx hF h HZT.out.2.2.1 HNA.out)
    have HAL := hid (show (t.attrs ++ R).all rightB = (t.attrs.all rightB && R.all rightB) from List.all_append)
    rw [HAL.out]
    obtain ⟨B1, hB1⟩ : ∃ B1, t.attrs.all rightB = B1 := ⟨_, rfl⟩
    obtain ⟨B2, hB2⟩ : ∃ B2, R.all rightB = B2 := ⟨_, rfl⟩
    rw [hB1] at CDO
    rw [hB2] at IH
    rw [hB1, hB2]
    obtain ⟨V, hV⟩ : ∃ V, (B1 && B2) = V := ⟨_, rfl⟩
    have HVB := hid hV
    rw [hV]
    clear hV
    clear hB1 hB2 HAL hA
    go_enter Tryz.func77, Tryz.ntmps77
    go_wp2_with fail
    refine IH.out.mono ?_
    rintro e w1 ⟨v, rfl, hv, hb1⟩
    have HB1 := hid hb1
    have HVV := hid hv
    clear hb1 hv IH c0 c2
    cases B2 with
    | false =>
      have HV0 := hid (show V = false by rw [← HVB.out, Bool.and_false])
      go_wp2_with fail
      go_ret2
      exact ⟨_, by rw [HV0.out]; rfl, fun h => (by rw [HV0.out] at h; cases h), HB1.out⟩
    | true =>
      obtain ⟨F, C, rfl, hF⟩ := HVV.out rfl
      have HF := hid hF
      clear hF HVV
      obtain ⟨b', o', aa, ca, e', hb, c0, c2, hA⟩ := HROW.out _ HB1.out
      obtain ⟨rfl, rfl⟩ : b = b' ∧ o = o' := by cases e'; exact ⟨rfl, rfl⟩
      have HA := hid hA
      clear e' hA c0
      go_wp2_with fail
      refine (CDO.out _ _ _ HA.out).mono ?_
      rintro e w2 ⟨rfl, hb2⟩
      have HB2 := hid (bb HB1.out hb2)
      have HF2 := hid (HF.out.below hb2)
      clear hb2 c2 HA hb HF
      cases B1 with
      | false =>
        have HV0 := hid (show V = false by rw [← HVB.out]; rfl)
        go_wp2_with fail
        go_ret2
        exact ⟨_, by rw [HV0.out]; rfl, fun h => (by rw [HV0.out] at h; cases h), HB2.out⟩
      | true =>
        obtain ⟨b', o', aa, ca, e', hb, c0, c2, hA⟩ := HROW.out _ HB2.out
        obtain ⟨rfl, rfl⟩ : b = b' ∧ o = o' := by cases e'; exact ⟨rfl, rfl⟩
        have HA := hid hA
        clear e' hA c0
        go_wp2_with fail
        refine (CNR.out _ _ _ _ _ HF2.out HA.out).mono ?_
        rintro e w3 ⟨C', rfl, hF3, hb3⟩
        have HB3 := hid (bb HB2.out hb3)
        have HF3 := hid hF3
        have HV0 := hid (show V = true by rw [← HVB.out]; rfl)
        clear hb3 hF3
        go_wp2_with fail
        go_ret2
        exact ⟨_, by rw [HV0.out]; rfl, fun _ => ⟨_, _, rfl, HF3.out⟩, HB3.out⟩

/-- All from one on, outwards. -/
def outAts (ts : List Tk) (k : Nat) : List At := upAts ts (chainF ts (k + 1))

theorem cLookupAt (a : Option Addr) (cap : Nat) (ts : List Tk) (k : Nat) (w : World) (hR : TkRow w a ts) (hT : TreeP ts) (hk : k < ts.length) (hn : ts.length ≤ 1048576) (hz : TksSz 1048576 ts) :
    Calls Tryz.prog 77 #[.slice a ts.length cap, .int .i64 (k : Int)] w fun e w' =>
      ∃ v, e = .returned (.tuple #[v, .bool ((outAts ts k).all rightB)]) ∧ ((outAts ts k).all rightB = true → ∃ F C, v = .func (.func F) #[] C ∧ Asks F C w' (outAts ts k)) ∧ Below w.heap.size w w' := by
  obtain ⟨h1, h2⟩ := chain_at hT hk
  have h := cLookupC a cap ts _ h1 hn hz (chainF ts (k + 1)).length 0 (by omega) w hR
  rw [h2] at h
  exact h

theorem meanF_out (ts : List Tk) (k : Nat) (p : ByteArray) : meanF ts k p = meanL (outAts ts k) p := rfl

set_option maxHeartbeats 2000000 in
theorem cElementThere (a : Option Addr) (cap : Nat) (ts : List Tk) (x : Int) (w : World) (hR : TkRow w a ts) (hn : ts.length ≤ 1048576) (hz : TksSz 1048576 ts) :
    Calls Tryz.prog 116 #[.slice a ts.length cap, .int .i64 x] w fun e w' => e = .returned (.bool (elemB ts x)) ∧ Below w.heap.size w w' := by
  have C := hid (cThere a cap ts x w hR hn hz)
  have HR := hid hR
  clear hR
  cases hh : hasB ts x with
  | false =>
    have HE := hid (show elemB ts x = false by unfold elemB; rw [hh]; rfl)
    rw [HE.out]
    rw [hh] at C
    clear hh HE HR hz
    generalize ts.length = n at *
    go_enter Tryz.func116, Tryz.ntmps116
    go_wp2_with fail
    refine C.out.mono ?_
    rintro e w1 ⟨rfl, hb1⟩
    have HB1 := hid hb1
    clear hb1 C
    go_wp2_with fail
    go_ret
    exact ⟨rfl, HB1.out⟩
  | true =>
    obtain ⟨hT, k, rfl, hk⟩ := hasB_t hh
    have HE := hid (show elemB ts (k : Int) = !decide (ts[k].name.size = 0) by unfold elemB; rw [hh]; show (true && !decide ((nameI ts k).size = 0)) = _; rw [nameI_at hk]; rfl)
    rw [HE.out]
    rw [hh] at C
    have HROW := hid (fun wx (hb : Below w.heap.size w wx) => (HR.out.below hb) k hk)
    obtain ⟨b, o, _, _, ea, -⟩ := HR.out k hk
    subst ea
    have hkn : (k : Int) < (ts.length : Int) := by omega
    have CI := hid (fun wx aa nA ca => cIsText ts[k].kind ts[k].name aa nA ca ts[k].text wx (hz _ (List.getElem_mem hk)).1)
    clear hh HE HR hz hT
    generalize decide (ts[k].name.size = 0) = D at *
    generalize ts[k].kind = K at *
    generalize ts[k].name = N at *
    generalize ts[k].text = T at *
    generalize ts[k].attrs = A at *
    generalize ts.length = n at *
    go_enter Tryz.func116, Tryz.ntmps116
    go_wp2_with fail
    refine C.out.mono ?_
    rintro e w1 ⟨rfl, hb1⟩
    obtain ⟨b', o', aa, ca, e', hb, q0, q1, q2, q3, _⟩ := HROW.out _ hb1
    obtain ⟨rfl, rfl⟩ : b = b' ∧ o = o' := by cases e'; exact ⟨rfl, rfl⟩
    have HB1 := hid hb1
    clear hb1 C e' HROW
    go_wp2_with fail
    refine (CI.out _ _ _ _).mono ?_
    rintro e w2 ⟨rfl, hb2⟩
    have HB2 := hid (bb HB1.out hb2)
    clear hb2
    go_wp2_with fail
    go_ret
    exact ⟨rfl, HB2.out⟩

set_option maxHeartbeats 2000000 in
theorem cMeaningI (a : Option Addr) (cap : Nat) (ts : List Tk) (x : Int) (p : ByteArray) (w : World) (hR : TkRow w a ts) (hn : ts.length ≤ 1048576) (hz : TksSz 1048576 ts) (hp : p.size ≤ 1048576) :
    Calls Tryz.prog 181 #[.slice a ts.length cap, .int .i64 x, .string p] w fun e w' => e = .returned (.tuple #[.string ((meanI ts x p).getD ⟨#[]⟩), .bool (meanI ts x p).isSome]) ∧ Below w.heap.size w w' := by
  have C := hid (cElementThere a cap ts x w hR hn hz)
  cases hh : elemB ts x with
  | false =>
    have HE := hid (show meanI ts x p = none by unfold meanI; rw [hh]; rfl)
    rw [HE.out]
    rw [hh] at C
    clear hh HE hR hz
    generalize ts.length = n at *
    go_enter Tryz.func181, Tryz.ntmps181
    go_wp2_with fail
    refine C.out.mono ?_
    rintro e w1 ⟨rfl, hb1⟩
    have HB1 := hid hb1
    clear hb1 C
    go_wp2_with fail
    go_ret2
    exact ⟨rfl, HB1.out⟩
  | true =>
    obtain ⟨hT, k, rfl, hk⟩ := elemB_t hh
    have HE := hid (show meanI ts (k : Int) p = meanL (outAts ts k) p by unfold meanI; rw [hh]; rfl)
    rw [HE.out]
    rw [hh] at C
    have CL := hid (fun wx (hb : Below w.heap.size w wx) => cLookupAt a cap ts k wx (hR.below hb) hT hk hn hz)
    clear hh HE hR hz hT hk
    generalize outAts ts k = L at *
    generalize ts.length = n at *
    obtain ⟨B, hB⟩ : ∃ B, L.all rightB = B := ⟨_, rfl⟩
    rw [hB] at CL
    have HBB := hid hB
    clear hB
    obtain ⟨V, hV⟩ : ∃ V, meanL L p = V := ⟨_, rfl⟩
    have HVV0 := hid hV
    rw [hV]
    clear hV
    go_enter Tryz.func181, Tryz.ntmps181
    go_wp2_with fail
    refine C.out.mono ?_
    rintro e w1 ⟨rfl, hb1⟩
    have CL1 := hid (CL.out _ hb1)
    have HB1 := hid hb1
    clear hb1 C CL
    go_wp2_with fail
    refine CL1.out.mono ?_
    rintro e w2 ⟨v, rfl, hv, hb2⟩
    have HB2 := hid (bb HB1.out hb2)
    have HVV := hid hv
    clear hb2 CL1 hv
    cases B with
    | false =>
      have HV0 := hid (show V = none by rw [← HVV0.out]; exact meanL_not p HBB.out)
      go_wp2_with fail
      go_ret2
      exact ⟨by rw [HV0.out]; rfl, HB2.out⟩
    | true =>
      have HV0 := hid (show lookL L p = V by rw [← HVV0.out]; exact (meanL_look p HBB.out).symm)
      obtain ⟨F, CC, rfl, hF⟩ := HVV.out rfl
      have he := hF.1 p
      have CF := hid (hF.2 p _ (Below.refl _ _) hp)
      clear hF HVV
      rw [HV0.out] at CF
      go_wp2_with fail
      refine CF.out.mono ?_
      rintro e w3 ⟨rfl, hb3⟩
      have HB3 := hid (bb HB2.out hb3)
      clear hb3 CF
      go_wp2_with fail
      go_ret2
      exact ⟨rfl, HB3.out⟩

theorem meanI_el {ts : List Tk} {k : Nat} {p : ByteArray} (h : elemB ts (k : Int) = true) : meanI ts (k : Int) p = meanF ts k p := by unfold meanI; rw [h]; rfl

set_option maxHeartbeats 2000000 in
theorem cKnownI (a : Option Addr) (cap : Nat) (ts : List Tk) (x : Int) (l m : ByteArray) (w : World) (hR : TkRow w a ts) (hn : ts.length ≤ 1048576) (hz : TksSz 1048576 ts) (hl : l.size ≤ 1048576) (hm : m.size ≤ 1048576) :
    Calls Tryz.prog 142 #[.slice a ts.length cap, .int .i64 x, .string l, .string m] w fun e w' => e = .returned (.bool (knownI ts x l m)) ∧ Below w.heap.size w w' := by
  have C := hid (cElementThere a cap ts x w hR hn hz)
  cases hh : elemB ts x with
  | false =>
    have HE := hid (show knownI ts x l m = false by unfold knownI; rw [hh]; rfl)
    rw [HE.out]
    rw [hh] at C
    clear hh HE hR hz
    generalize ts.length = n at *
    go_enter Tryz.func142, Tryz.ntmps142
    go_wp2_with fail
    refine C.out.mono ?_
    rintro e w1 ⟨rfl, hb1⟩
    have HB1 := hid hb1
    clear hb1 C
    go_wp2_with fail
    go_ret
    exact ⟨rfl, HB1.out⟩
  | true =>
    obtain ⟨hT, k, rfl, hk⟩ := elemB_t hh
    have HE := hid (show knownI ts (k : Int) l m = knownN ts k l m by unfold knownI; rw [hh]; rfl)
    rw [HE.out]
    rw [hh] at C
    have hzn := name_sz hz hk
    have CP := hid (fun wx => cPartsI (nameI ts k) wx hzn)
    have CM := hid (fun wx (hb : Below w.heap.size w wx) => cMeaningI a cap ts (k : Int) (preS (nameI ts k)) wx (hR.below hb) hn hz (preS_sz hzn))
    rw [meanI_el hh] at CM
    have HROW := hid (fun wx (hb : Below w.heap.size w wx) => name_row (hR.below hb) hk)
    obtain ⟨b, o, ea, -⟩ := name_row hR hk
    subst ea
    have h1 := str_beq (locS (nameI ts k)) l
    have h2 := str_beq ((meanF ts k (preS (nameI ts k))).getD ⟨#[]⟩) m
    have hkn : (k : Int) < (ts.length : Int) := by omega
    unfold knownN
    generalize (meanF ts k (preS (nameI ts k))).isSome = I at *
    generalize (meanF ts k (preS (nameI ts k))).getD ⟨#[]⟩ = G at *
    generalize preS (nameI ts k) = P at *
    generalize locS (nameI ts k) = L at *
    generalize nameI ts k = N at *
    clear hh HE hR hz hT hk hzn
    generalize ts.length = n at *
    obtain ⟨B1, hB1⟩ : ∃ B : Bool, decide (L = l) = B := ⟨_, rfl⟩
    obtain ⟨B2, hB2⟩ : ∃ B : Bool, decide (G = m) = B := ⟨_, rfl⟩
    rw [hB1] at h1
    rw [hB2] at h2
    have HQ := hid (And.intro hB1 hB2)
    clear hB1 hB2
    go_enter Tryz.func142, Tryz.ntmps142
    go_wp2_with fail
    refine C.out.mono ?_
    rintro e w1 ⟨rfl, hb1⟩
    obtain ⟨b', o', e', c1⟩ := HROW.out _ hb1
    obtain ⟨rfl, rfl⟩ : b = b' ∧ o = o' := by cases e'; exact ⟨rfl, rfl⟩
    have HB1 := hid hb1
    clear hb1 C e' HROW
    go_wp2_with fail
    refine (CP.out _).mono ?_
    rintro e w2 ⟨rfl, hb2⟩
    have HB2 := hid (bb HB1.out hb2)
    have CM2 := hid (CM.out _ HB2.out)
    clear hb2 CP CM c1
    go_wp2_with fail
    refine CM2.out.mono ?_
    rintro e w3 ⟨rfl, hb3⟩
    have HB3 := hid (bb HB2.out hb3)
    clear hb3 CM2
    cases I
    · go_wp2_with fail
      go_ret
      exact ⟨by simp, HB3.out⟩
    · cases B1
      · go_wp2_with fail
        go_ret
        exact ⟨by simp [HQ.out.1], HB3.out⟩
      · go_wp2_with fail
        go_ret
        exact ⟨by simp [HQ.out.1, HQ.out.2], HB3.out⟩

end Go.Proofs.YtnbpcgeojmikoaaGreatDoor

namespace Go.Proofs.YtnbpcgeojmikoaaGreatDoor
open Go.RowKit
set_option linter.unusedVariables false
set_option linter.unusedSimpArgs false

set_option maxHeartbeats 4000000 in
theorem cEndOfI (a : Option Addr) (cap : Nat) (ts : List Tk) (x : Int) (w : World) (hR : TkRow w a ts) (hn : ts.length ≤ 1048576) (hz : TksSz 1048576 ts) :
    Calls Tryz.prog 65 #[.slice a ts.length cap, .int .i64 x] w fun e w' => e = .returned (.int .i64 (endI ts x)) ∧ Below w.heap.size w w' := by
  have C := hid (cThere a cap ts x w hR hn hz)
  have HR := hid hR
  cases q : hasB ts x
  · have e1 : endI ts x = -1 := by unfold endI; rw [q]; rfl
    rw [e1]
    rw [q] at C
    clear hz hR e1
    generalize ts.length = n at *
    go_enter Tryz.func65, Tryz.ntmps65
    go_wp2_with fail
    refine C.out.mono ?_
    rintro e w1 ⟨rfl, hb1⟩
    have HB1 := hid hb1
    clear hb1
    go_wp2_with fail
    go_ret
    exact ⟨rfl, HB1.out⟩
  · obtain ⟨_, k, rfl, hk⟩ := hasB_t q
    have e1 : endI ts (k : Int) = (endN ts k : Int) := by unfold endI; rw [q]; rfl
    rw [e1]
    rw [q] at C
    clear hz hR e1 q
    obtain ⟨V, hV⟩ : ∃ V, endN ts k = V := ⟨_, rfl⟩
    have HV := hid hV
    rw [hV]
    clear hV
    obtain ⟨n, hnn⟩ : ∃ n, ts.length = n := ⟨_, rfl⟩
    have HN := hid hnn
    rw [hnn] at hn hk C ⊢
    clear hnn
    go_enter Tryz.func65, Tryz.ntmps65
    go_wp2_with fail
    refine C.out.mono ?_
    rintro e w1 ⟨rfl, hb1⟩
    have HB1 := hid hb1
    have HR1 := hid (HR.out.below hb1)
    clear hb1
    go_wp2_with fail
    go_loop [5] (fun v => ∃ e : Nat, v = .int .i64 (e : Int) ∧ k < e ∧ e ≤ n ∧ Hid (∀ j, k < j → j < e → (k : Int) ≤ parI ts j)) (fun v => n - (intOf v).toNat)
    case atStart => exact ⟨k + 1, by go_num, by omega, by omega, fun j h1 h2 => by omega⟩
    case round =>
      obtain ⟨e, rfl, h1, h2, HA⟩ := hrel
      by_cases hlt : e < n
      · have hes : e < ts.length := by rw [HN.out]; exact hlt
        have hin : (e : Int) < (n : Int) := by omega
        obtain ⟨b, o, rfl, c0, _⟩ := HR1.out.kindAt e hes
        by_cases hp : (k : Int) ≤ parI ts e
        · have HA2 := hid (show ∀ j, k < j → j < e + 1 → (k : Int) ≤ parI ts j from fun j g1 g2 => by
            rcases Nat.lt_or_eq_of_le (Nat.le_of_lt_succ g2) with h' | rfl
            · exact HA.out j g1 h'
            · exact hp)
          generalize parI ts e = P at *
          go_wp2
          go_round
          case rel => exact ⟨e + 1, by go_num, by omega, by omega, HA2.out⟩
          case measure => simp [intOf]; omega
        · have HW := hid (show V = e by rw [← HV.out]; exact endN_is h1 (by rw [HN.out]; exact h2) HA.out (.inr (by omega)))
          have hp' : parI ts e < (k : Int) := by omega
          generalize parI ts e = P at *
          go_wp2
          go_ret
          exact ⟨by rw [HW.out]; rfl, HB1.out⟩
      · have hee : e = n := by omega
        have HW := hid (show V = e by rw [← HV.out]; exact endN_is h1 (by rw [HN.out]; exact h2) HA.out (.inl (by rw [HN.out]; exact hee)))
        subst hee
        go_wp2
        go_ret
        exact ⟨by rw [HW.out]; rfl, HB1.out⟩

end Go.Proofs.YtnbpcgeojmikoaaGreatDoor

namespace Go.Proofs.YtnbpcgeojmikoaaGreatDoor
open Go.RowKit
set_option linter.unusedVariables false
set_option linter.unusedSimpArgs false

theorem kid_ahead {ts : List Tk} (h : TreeP ts) {i k : Nat} (hi : i < ts.length) (hp : parI ts i = (k : Int)) : k < i := by
  rcases Nat.eq_zero_or_pos i with h0 | h0
  · subst h0
    rw [h.2.2.1] at hp
    omega
  · rcases (h.2.2.2.2 i hi).2.1 with h' | ⟨p, hm, e, _⟩
    · omega
    · obtain ⟨j, rfl⟩ : ∃ j, i = j + 1 := ⟨i - 1, by omega⟩
      have := (linked_all j (fun m hm => (h.2.2.2.2 m (by omega)).2.1)).2 p hm
      omega

theorem kidsTo_step {ts : List Tk} {k e : Nat} (h : parI ts e = (k : Int) → k < e) : kidsTo ts k (e + 1) = kidsTo ts k e ++ (if parI ts e = (k : Int) then [e] else []) := by
  unfold kidsTo
  rw [List.range_succ, List.filter_append]
  congr 1
  by_cases q : parI ts e = (k : Int)
  · simp [h q, q]
  · simp [q]

set_option maxRecDepth 8000 in
set_option maxHeartbeats 4000000 in
theorem cKidsOfI (a : Option Addr) (cap : Nat) (ts : List Tk) (x : Int) (w : World) (hR : TkRow w a ts) (hn : ts.length ≤ 1048576) (hz : TksSz 1048576 ts) :
    Calls Tryz.prog 143 #[.slice a ts.length cap, .int .i64 x] w fun e w' => ∃ v, e = .returned v ∧ w'.ownsRow w.heap.size 2 1 v (kidsI ts x).length (intC (kidsI ts x)) ∧ Below w.heap.size w w' := by
  have C := hid (cThere a cap ts x w hR hn hz)
  have HR := hid hR
  have HZ := hid hz
  cases q : hasB ts x
  · have e1 : kidsI ts x = [] := by unfold kidsI; rw [q]; rfl
    rw [e1]
    rw [q] at C
    clear hz hR e1
    generalize ts.length = n at *
    go_enter Tryz.func143, Tryz.ntmps143
    go_wp2_with fail
    refine C.out.mono ?_
    rintro e w1 ⟨rfl, hb1⟩
    have HB1 := hid hb1
    clear hb1
    go_wp2_with fail
    go_ret
    exact ⟨_, rfl, World.ownsRow_nil _ _ _ _, HB1.out⟩
  obtain ⟨hT, k, rfl, hk⟩ := hasB_t q
  have e1 : kidsI ts (k : Int) = kidsN ts k := by unfold kidsI; rw [q]; rfl
  obtain ⟨i0, hi, hz0, hz1, hz2⟩ := info_parts info64
  have HI := hid (And.intro hi (And.intro hz0 (And.intro hz1 hz2)))
  have HAH := hid (fun i (h : i < ts.length) => kid_ahead hT h (k := k))
  rw [e1]
  rw [q] at C
  clear hz hR e1 q hT hi hz0 hz1 hz2
  obtain ⟨V, hV⟩ : ∃ V, kidsN ts k = V := ⟨_, rfl⟩
  have HV := hid hV
  rw [hV]
  clear hV
  obtain ⟨n, hnn⟩ : ∃ n, ts.length = n := ⟨_, rfl⟩
  have HN := hid hnn
  rw [hnn] at hn hk C ⊢
  clear hnn
  go_enter Tryz.func143, Tryz.ntmps143
  go_wp2_with fail
  refine C.out.mono ?_
  rintro e w1 ⟨rfl, hb1⟩
  have HB1 := hid hb1
  clear hb1 C
  go_wp2_with fail
  go_loopw [5, 14] (fun v x wr => ∃ e : Nat, x = .int .i64 (e : Int) ∧ e ≤ n ∧ Hid (wr.ownsRow w.heap.size 2 1 v (kidsTo ts k e).length (intC (kidsTo ts k e))) ∧ Hid (Below w.heap.size w wr)) (fun _ x _ => n - (intOf x).toNat)
  case atStart => exact ⟨0, rfl, Nat.zero_le _, World.ownsRow_nil _ _ _ _, HB1.out⟩
  case round =>
    clear HB1
    obtain ⟨e, rfl, h2, HO, HB⟩ := hrel
    by_cases hlt : e < n
    case neg =>
      have hee : e = n := by omega
      subst hee
      have HW := hid (show kidsTo ts k e = V by rw [← HV.out]; unfold kidsN; rw [HN.out])
      have HO2 := HO.out
      rw [HW.out] at HO2
      have HO3 := hid HO2
      clear HO2 HO
      go_wp2_with fail
      go_ret
      exact ⟨_, rfl, HO3.out, HB.out⟩
    have hes : e < ts.length := by rw [HN.out]; exact hlt
    have hin : (e : Int) < (n : Int) := by omega
    have HX := hid (kidsTo_step (ts := ts) (k := k) (HAH.out e hes))
    have HPI := hid (parI_at hes)
    obtain ⟨b, o, aa, ca, rfl, hb, c0, c1, c2, c3, cr⟩ := HR.out.below HB.out e hes
    clear cr
    rw [HPI.out] at HX
    have HOB := hid (HO.out.alloc (.cells #[.int .i64 ts[e].kind, .string ts[e].name, .slice aa ts[e].attrs.length ca, .string ts[e].text] 32))
    have HBB := hid (HB.out.alloc HB.out.size (.cells #[.int .i64 ts[e].kind, .string ts[e].name, .slice aa ts[e].attrs.length ca, .string ts[e].text] 32))
    have hsz := HB.out.size
    have hlen := kidsTo_len ts k e
    by_cases hp : ts[e].kind = (k : Int)
    · rw [if_pos hp] at HX
      have hd : (ts[e].kind == (k : Int)) = true := by simpa using hp
      clear HPI hp
      generalize ts[e].kind = P at *
      generalize ts[e].name = nm at *
      generalize ts[e].attrs.length = al at *
      generalize ts[e].text = tx at *
      obtain ⟨hi, hz0, hz1, hz2⟩ := HI.out
      have HOA := hid (HOB.out.alloc (.cells #[.int .i64 (e : Int)] 2))
      have hlen2 : (intC (kidsTo ts k e)).length ≤ e := by rw [intC_len]; exact hlen
      have HL2 := hid hlen2
      obtain ⟨a5, c5, hv5⟩ := own_len HO.out
      clear hlen2
      subst hv5
      obtain ⟨kl, hkl⟩ : ∃ kl, (kidsTo ts k e).length = kl := ⟨_, rfl⟩
      rw [hkl] at hlen HOA HO HOB ⊢
      have HKL := hid hkl
      clear hkl
      go_wp2_with (at_builtin; refine wpList_append_own _ rfl _ _ 90 rfl w.heap.size 2 i0 (.int .i64 0) 1 8 Tryz.underlying90 hi hz0 hz1 hz2 rfl (by decide) _ _ _ rfl HOA.out ⟨wr.heap.size + 1, 0, none⟩ 1 1 [.int .i64 (e : Int)] rfl rfl ?c1 ?c2 ?c3 ?c4 ?c5 ?_)
      case c1 =>
        have := one_cell64 (wr.alloc (.cells #[.int .i64 P, .string nm, .slice aa al ca, .string tx] 32)) (.int .i64 (e : Int))
        rw [show (wr.alloc (.cells #[.int .i64 P, .string nm, .slice aa al ca, .string tx] 32)).heap.size = wr.heap.size + 1 by simp] at this
        exact this
      case c2 => exact one_one64 _
      case c3 => unfold maxLen; omega
      case c4 => omega
      case c5 => simp; omega
      intro v' w2 hown' hgrow _
      have HO2 := hid (show w2.ownsRow w.heap.size 2 1 v' (kidsTo ts k (e + 1)).length (intC (kidsTo ts k (e + 1))) by rw [HX.out, intC_app, List.length_append, HKL.out]; exact hown')
      have HB2 := hid ((HBB.out.alloc (by simp; omega) (.cells #[.int .i64 (e : Int)] 2)).grown hgrow (by simp; omega) (fun g hg => (HOA.out.lt g hg).1))
      clear hown' hgrow
      go_wp2_with fail
      go_roundw
      case rel => exact ⟨e + 1, by go_num, by omega, HO2.out, HB2.out⟩
      case measure => simp [intOf]; omega
    · rw [if_neg hp, List.append_nil] at HX
      have hd : (ts[e].kind == (k : Int)) = false := by simpa using hp
      clear hp HPI
      generalize ts[e].kind = P at *
      generalize ts[e].name = nm at *
      generalize ts[e].attrs.length = al at *
      generalize ts[e].text = tx at *
      go_wp2_with fail
      go_roundw
      case rel => exact ⟨e + 1, by go_num, by omega, by rw [HX.out]; exact HOB.out, HBB.out⟩
      case measure => simp [intOf]; omega

end Go.Proofs.YtnbpcgeojmikoaaGreatDoor

namespace Go.Proofs.YtnbpcgeojmikoaaGreatDoor
open Go.RowKit
set_option linter.unusedVariables false
set_option linter.unusedSimpArgs false

/-- A row of texts. -/
def NmRow (w : World) (g : Nat) (l : List ByteArray) : Prop := g < w.heap.size ∧ ∀ i (h : i < l.length), w.cell? ⟨g, i, none⟩ = some (.string l[i])

theorem NmRow.below {w w' : World} {g : Nat} {l : List ByteArray} (h : NmRow w g l) (hb : Below w.heap.size w w') : NmRow w' g l :=
  ⟨Nat.lt_of_lt_of_le h.1 hb.size, fun i hi => (hb.cell (p := ⟨g, i, none⟩) h.1).trans (h.2 i hi)⟩

/-- The three names. -/
def threeL : List ByteArray := [refS, sumS, signS]

theorem three_row (w : World) : NmRow (w.alloc (.cells #[.string refS, .string sumS, .string signS] 9)) w.heap.size threeL := by
  refine ⟨by rw [World.size_alloc]; exact Nat.lt_succ_self _, ?_⟩
  have h := heap_alloc_new w (.cells #[.string refS, .string sumS, .string signS] 9)
  intro i hi
  have hi' : i < 3 := hi
  have : i = 0 ∨ i = 1 ∨ i = 2 := by omega
  rcases this with rfl | rfl | rfl <;> (unfold World.cell?; rw [h]; rfl)

noncomputable def hasN (l : List ByteArray) (s : ByteArray) : Bool := open Classical in decide (s ∈ l)

theorem hasN_t {l : List ByteArray} {s : ByteArray} (h : s ∈ l) : hasN l s = true := by unfold hasN; simp [h]

theorem hasN_f {l : List ByteArray} {s : ByteArray} (h : ¬ s ∈ l) : hasN l s = false := by unfold hasN; simp [h]

theorem hasN_just (x : At) : hasN threeL x.name = justN x := by
  rw [Bool.eq_iff_iff, just_is]
  unfold hasN threeL
  simp

set_option maxRecDepth 4000 in
set_option maxHeartbeats 2000000 in
theorem cIndexN (g cap : Nat) (l : List ByteArray) (s : ByteArray) (w : World) (hR : NmRow w g l) (hn : l.length ≤ 1048576) :
    Calls Tryz.prog 210 #[.slice (some ⟨g, 0, none⟩) l.length cap, .string s] w fun e w' => ∃ r : Int, e = .returned (.int .i64 r) ∧ decide (0 ≤ r) = hasN l s ∧ Below w.heap.size w w' := by
  obtain ⟨V, hV⟩ : ∃ V, hasN l s = V := ⟨_, rfl⟩
  have HF : Hid (¬ s ∈ l → V = false) := fun h => by rw [← hV]; exact hasN_f h
  have HT : Hid (s ∈ l → V = true) := fun h => by rw [← hV]; exact hasN_t h
  rw [hV]
  clear hV
  have HR := hid hR
  clear hR
  obtain ⟨n, hnn⟩ : ∃ n, l.length = n := ⟨_, rfl⟩
  have HN := hid hnn
  rw [hnn] at hn ⊢
  clear hnn
  go_enter Tryz.func210, Tryz.ntmps210
  go_wp2_with fail
  go_loopw [8] (fun k wr => ∃ i : Nat, k = .int .i64 (i : Int) ∧ i ≤ n ∧ Hid (¬ s ∈ l.take i) ∧ Hid (Below w.heap.size w wr)) (fun k _ => n - (intOf k).toNat)
  case atStart => exact ⟨0, rfl, Nat.zero_le _, by show ¬ _; simp, Below.refl _ _⟩
  case round =>
    obtain ⟨i, rfl, hi, HO, HB⟩ := hrel
    by_cases hlt : i < n
    · have his : i < l.length := by rw [HN.out]; exact hlt
      have c1 := (HR.out.below HB.out).2 i his
      have hin : (i : Int) < (n : Int) := by omega
      have hin0 : (0 : Int) ≤ (i : Int) := by omega
      have q1 := str_beq s l[i]
      have HTK := hid (take_snocN his)
      have HYES := hid (show s = l[i] → V = true from fun e1 => HT.out (by rw [e1]; exact List.getElem_mem his))
      have HNO := hid (show ¬ s = l[i] → ¬ s ∈ l.take (i + 1) from fun h hm => by
        rw [HTK.out] at hm
        rcases List.mem_append.1 hm with h' | h'
        · exact HO.out h'
        · rw [List.mem_singleton] at h'
          exact h h')
      generalize l[i] = m' at *
      by_cases e1 : s = m'
      · rw [decide_eq_true e1] at q1
        have HV := hid (HYES.out e1)
        clear HNO HYES e1 HTK
        go_wp2_with fail
        go_ret
        exact ⟨_, rfl, by rw [HV.out]; exact decide_eq_true hin0, HB.out⟩
      · rw [decide_eq_false e1] at q1
        have HN2 := hid (HNO.out e1)
        clear HNO HYES e1 HTK
        go_wp2_with fail
        go_roundw
        case rel => exact ⟨i + 1, by go_num, by omega, HN2.out, HB.out⟩
        case measure => simp [intOf]; omega
    · have hie : i = n := by omega
      subst hie
      have HV := hid (HF.out (by
        have h := HO.out
        rw [List.take_of_length_le (by rw [HN.out]; exact Nat.le_refl _)] at h
        exact h))
      go_wp2_with fail
      go_ret
      exact ⟨_, rfl, by rw [HV.out]; rfl, HB.out⟩

set_option maxHeartbeats 2000000 in
theorem cContainsN (g cap : Nat) (l : List ByteArray) (s : ByteArray) (w : World) (hR : NmRow w g l) (hn : l.length ≤ 1048576) :
    Calls Tryz.prog 182 #[.slice (some ⟨g, 0, none⟩) l.length cap, .string s] w fun e w' => e = .returned (.bool (hasN l s)) ∧ Below w.heap.size w w' := by
  have C := hid (cIndexN g cap l s w hR hn)
  clear hR
  generalize hasN l s = V at *
  generalize l.length = n at *
  go_enter Tryz.func182, Tryz.ntmps182
  go_wp2_with fail
  refine C.out.mono ?_
  rintro e w1 ⟨r, rfl, hr, hb1⟩
  have HB1 := hid hb1
  clear hb1 C
  go_wp2_with fail
  go_ret
  exact ⟨rfl, HB1.out⟩

/-- The first attrs are right by name, and so many of them are no declarations. -/
def JustTo (l : List At) (n : Nat) : Prop := (ownA l).all justN = true ∧ (ownA l).length = n

theorem justTo_nil : JustTo [] 0 := ⟨rfl, rfl⟩

theorem JustTo.skip {l : List At} {y : At} {n : Nat} (h : JustTo l n) (hd : (declF y).isSome = true) : JustTo (l ++ [y]) n := by
  unfold JustTo
  rw [ownA_skip hd]
  exact h

theorem JustTo.more {l : List At} {y : At} {n : Nat} (h : JustTo l n) (hd : declF y = none) (hs : justN y = true) : JustTo (l ++ [y]) (n + 1) := by
  unfold JustTo
  rw [ownA_more hd, List.all_append, List.length_append, h.1, h.2]
  simp [hs]

theorem JustTo.is {l : List At} {n : Nat} (h : JustTo l n) : justL l = decide (n = 3) := by
  unfold justL
  rw [h.1, h.2, Bool.true_and]

theorem justL_bad {l : List At} {y : At} (hm : y ∈ l) (hd : declF y = none) (hs : justN y = false) : justL l = false := by
  unfold justL
  have h : (ownA l).all justN = false := by
    rw [List.all_eq_false]
    exact ⟨y, List.mem_filter.2 ⟨hm, by rw [hd]; rfl⟩, by rw [hs]; decide⟩
  rw [h]
  rfl

set_option maxRecDepth 4000 in
set_option maxHeartbeats 4000000 in
theorem cJustAttrs (a : Option Addr) (cap : Nat) (l : List At) (g : Nat) (w : World) (hR : AtRow w a l) (hz : AtSz 1048576 l) (hn : l.length ≤ 1048576) (hG : NmRow w g threeL) :
    Calls Tryz.prog 144 #[.slice a l.length cap, .slice (some ⟨g, 0, none⟩) 3 3] w fun e w' => e = .returned (.bool (justL l)) ∧ Below w.heap.size w w' := by
  obtain ⟨V, hV⟩ : ∃ V, justL l = V := ⟨_, rfl⟩
  have HV := hid hV
  rw [hV]
  clear hV
  have HR := hid hR
  have HZ := hid hz
  have CC := hid (fun (y : At) wx (hb : Below w.heap.size w wx) => cContainsN g 3 threeL y.name wx (hG.below hb) (by decide))
  have CC' := hid (show ∀ (y : At) (wx : World), Below w.heap.size w wx → (Calls Tryz.prog 182 #[.slice (some ⟨g, 0, none⟩) 3 3, .string y.name] wx fun e w' => e = .returned (.bool (justN y)) ∧ Below wx.heap.size wx w') from fun y wx hb => by rw [← hasN_just y]; exact CC.out y wx hb)
  clear hR hz hG CC
  obtain ⟨n, hnn⟩ : ∃ n, l.length = n := ⟨_, rfl⟩
  have HN := hid hnn
  rw [hnn] at hn ⊢
  clear hnn
  go_enter Tryz.func144, Tryz.ntmps144
  go_wp2_with fail
  go_loopw [5, 12] (fun v5 v6 wr => ∃ (j m : Nat), v5 = .int .i64 (m : Int) ∧ v6 = .int .i64 (j : Int) ∧ j ≤ n ∧ m ≤ j ∧ Hid (JustTo (l.take j) m) ∧ Hid (Below w.heap.size w wr)) (fun _ v6 _ => n - (intOf v6).toNat)
  case atStart => exact ⟨0, 0, rfl, rfl, Nat.zero_le _, Nat.zero_le _, by rw [List.take_zero]; exact justTo_nil, Below.refl _ _⟩
  case round =>
    obtain ⟨j, m, rfl, rfl, hj, hm, HK, HB⟩ := hrel
    by_cases hjl : j < n
    · have hjt : j < l.length := by rw [HN.out]; exact hjl
      have hjn : (j : Int) < (n : Int) := by omega
      obtain ⟨b2, o2, rfl, hb2, e1, e2⟩ := (HR.out.below HB.out) j hjt
      have HTS := hid (take_snocN hjt)
      have HSZ := hid (HZ.out _ (List.getElem_mem hjt))
      have HME := hid (List.getElem_mem hjt)
      obtain ⟨y, hy⟩ : ∃ y, l[j] = y := ⟨_, rfl⟩
      rw [hy] at e1 e2 HTS HSZ HME
      have CD := hid (fun wx => cDeclaredBy y wx HSZ.out.1)
      have HBX := hid ((Below.refl wr.heap.size wr).alloc (Nat.le_refl _) (.cells #[.string y.name, .string y.value] 70))
      have HBOX := hid (box_two wr (.string y.name) (.string y.value) 70)
      clear hy
      go_wp2_with fail
      refine (CD.out _).mono ?_
      rintro e w4 ⟨rfl, hb4⟩
      have HB4 := hid (bb HB.out (bb HBX.out hb4))
      have d1 := (hb4.cell (p := ⟨wr.heap.size, 0, none⟩) HBOX.out.2.2).trans HBOX.out.1
      have d2 := (hb4.cell (p := ⟨wr.heap.size, 1, none⟩) HBOX.out.2.2).trans HBOX.out.2.1
      clear hb4 HBX HBOX CD e1 e2 hb2 HB
      cases hd : declF y with
      | some q =>
        have HS := hid (HK.out.skip (show (declF y).isSome = true by rw [hd]; rfl))
        rw [← HTS.out] at HS
        clear hd d1 d2
        go_wp2_with fail
        go_roundw
        case rel => exact ⟨j + 1, m, rfl, by go_num, by omega, by omega, HS.out, HB4.out⟩
        case measure => simp [intOf]; omega
      | none =>
        have HD := hid hd
        clear hd
        go_wp2_with fail
        refine (CC'.out y _ HB4.out).mono ?_
        rintro e w5 ⟨rfl, hb5⟩
        have HB5 := hid (bb HB4.out hb5)
        clear hb5 d1 d2
        cases hw : justN y with
        | true =>
          have HS := hid (HK.out.more HD.out hw)
          rw [← HTS.out] at HS
          clear hw
          go_wp2_with fail
          go_roundw
          case rel => exact ⟨j + 1, m + 1, by go_num, by go_num, by omega, by omega, HS.out, HB5.out⟩
          case measure => simp [intOf]; omega
        | false =>
          have HX := hid (HV.out.symm.trans (justL_bad HME.out HD.out hw))
          clear hw
          go_wp2_with fail
          go_ret
          exact ⟨by rw [HX.out]; rfl, HB5.out⟩
    · have hje : j = n := by omega
      subst hje
      have HX := hid (show V = decide (m = 3) by
        rw [← HV.out]
        have h := HK.out
        rw [List.take_of_length_le (by rw [HN.out]; exact Nat.le_refl _)] at h
        exact h.is)
      have he : ((m : Int) == 3) = decide (m = 3) := by
        by_cases q : m = 3
        · subst q; rfl
        · rw [decide_eq_false q]; simp; omega
      generalize decide (m = 3) = Y at *
      go_wp2_with fail
      go_ret
      exact ⟨by rw [HX.out]; rfl, HB.out⟩

set_option maxHeartbeats 1000000 in
theorem cDigitsOk (b : ByteArray) (w : World) (hb : b.size ≤ 1048576) :
    Calls Tryz.prog 145 #[.string b] w fun e w' => e = .returned (.bool (tenB b)) ∧ w' = w := by
  have C := hid (cNumI b w hb)
  unfold tenB
  generalize (numOf b.data.toList).1 = X at *
  generalize (numOf b.data.toList).2 = Y at *
  go_enter Tryz.func145, Tryz.ntmps145
  go_wp2_with fail
  refine C.out.mono ?_
  rintro e w1 ⟨rfl, rfl⟩
  clear C
  go_wp2_with fail
  go_ret
  exact ⟨rfl, rfl⟩

end Go.Proofs.YtnbpcgeojmikoaaGreatDoor
