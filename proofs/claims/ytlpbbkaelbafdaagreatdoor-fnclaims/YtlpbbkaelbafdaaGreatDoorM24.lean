/-  -/
import Derived.Test.YtlpbbkaelbafdaaGreatDoorM23
import Derived.Test.YtlpbbkaelbafdaaGreatDoorM21
import Derived.Test.YtlpbbkaelbafdaaGreatDoorM22
import Derived.Laws.EntriesVeiled
set_option linter.unusedVariables false
set_option linter.unusedSimpArgs false
namespace Go.Proofs.YtlpbbkaelbafdaaGreatDoor
open Go.RowKit

noncomputable def lookL (l : List At) (p : ByteArray) : Option ByteArray := match l.find? (declB p) with | some x => some x.value | none => if p.size = 0 then some ⟨#[]⟩ else none

theorem meanL_look {l : List At} (p : ByteArray) (h : l.all rightB = true) : meanL l p = lookL l p := by
 unfold meanL lookL
 rw [if_pos h]
 rfl

theorem meanL_not {l : List At} (p : ByteArray) (h : l.all rightB = false) : meanL l p = none := by unfold meanL; rw [if_neg (by rw [h]; exact Bool.false_ne_true)]

theorem lookL_hit {l ls : List At} {p : ByteArray} {i : Nat} (h : i < l.length) (h0 : (l.take i).find? (declB p) = none) (h1 : declB p l[i] = true) : lookL (l ++ ls) p = some l[i].value := by
 have e : l.find? (declB p) = some l[i] := by
  rw [List.find?_eq_some_iff_getElem]
  refine ⟨h1, i, h, rfl, fun j hj => ?_⟩
  have h2 := List.find?_eq_none.1 h0 l[j] (List.mem_take_iff_getElem.2 ⟨j, by omega, rfl⟩)
  simpa using h2
 unfold lookL
 rw [List.find?_append, e]
 rfl

theorem lookL_none {l : List At} (ls : List At) {p : ByteArray} (h : l.find? (declB p) = none) : lookL (l ++ ls) p = lookL ls p := by
 unfold lookL
 rw [List.find?_append, h]
 rfl

theorem find_snoc {l : List At} {p : ByteArray} {i : Nat} (h : i < l.length) (h0 : (l.take i).find? (declB p) = none) (h1 : declB p l[i] = false) : (l.take (i + 1)).find? (declB p) = none := by
 rw [take_snocN h, List.find?_append, h0]
 simp [h1]

def Asks (F : FuncId) (C : Array Value) (w : World) (l : List At) : Prop :=
 (∀ p (wx : World), (callFunc F (#[.string p] ++ C)).run Tryz.prog wx = .ok (.enter F (#[.string p] ++ C)) wx) /\
 ∀ p (wx : World), Below w.heap.size w wx -> p.size <= 1048576 -> Calls Tryz.prog F (#[.string p] ++ C) wx fun e w' => e = .returned (.tuple #[.string ((lookL l p).getD ⟨#[]⟩), .bool (lookL l p).isSome]) /\ Below wx.heap.size wx w'

theorem Asks.below {F : FuncId} {C : Array Value} {w w' : World} {l : List At} (h : Asks F C w l) (hb : Below w.heap.size w w') : Asks F C w' l := ⟨h.1, fun p wx hx hp => h.2 p wx (bb hb hx) hp⟩

theorem enters {f : FuncId} {fn : Func} {c : Code} (hf : Tryz.prog.funcs[f]? = some fn) (hname : (fn.name == "runtime.NumGoroutine") = false) (hb : fn.body = some c) (args : Array Value) (w : World) :
  (callFunc f args).run Tryz.prog w = .ok (.enter f args) w := by
 have h1 : fn.name ≠ "runtime.NumGoroutine" := by simpa using hname
 simp [callFunc, hf, h1, hb]

theorem cAround (w : World) : Asks 127 #[] w [] := by
 refine ⟨fun p wx => enters Tryz.func127 (by kernel_rfl) rfl _ wx, fun p wx hb hp => ?_⟩
 show Calls Tryz.prog 127 #[.string p] wx _
 have e1 : (lookL [] p).getD ⟨#[]⟩ = ⟨#[]⟩ := by
  unfold lookL
  simp only [List.find?_nil]
  split <;> rfl
 have e2 : (lookL [] p).isSome = decide (p.size = 0) := by
  unfold lookL
  simp only [List.find?_nil]
  split
  ·rename_i h; rw [decide_eq_true h]; rfl
  ·rename_i h; rw [decide_eq_false h]; rfl
 rw [e1, e2]
 have E := empty_is p
 generalize decide (p.size = 0) = D at *
 clear e1 e2
 go_enter Tryz.func127, Tryz.ntmps127
 go_wp2_with fail
 go_ret2
 exact ⟨rfl, Below.refl _ _⟩

set_option maxRecDepth 4000 in
set_option maxHeartbeats 2000000 in
theorem cNearer1 (p : ByteArray) (g1 g2 : Nat) (a : Option Addr) (cap : Nat) (l : List At) (F : FuncId) (C : Array Value) (ls : List At) (w : World) (hp : p.size <= 1048576) (hA : Asks F C w ls)
  (c1 : w.cell? ⟨g1, 0, none⟩ = some (.slice a l.length cap)) (c2 : w.cell? ⟨g2, 0, none⟩ = some (.func (.func F) #[] C)) (h1 : g1 < w.heap.size) (h2 : g2 < w.heap.size) (hR : AtRow w a l) (hz : AtSz 1048576 l) (hn : l.length <= 1048576) :
  Calls Tryz.prog 155 #[.string p, .pointer (some ⟨g1, 0, none⟩), .pointer (some ⟨g2, 0, none⟩)] w fun e w' => e = .returned (.tuple #[.string ((lookL (l ++ ls) p).getD ⟨#[]⟩), .bool (lookL (l ++ ls) p).isSome]) /\ Below w.heap.size w w' := by
 obtain ⟨V, hV⟩ : ∃ V, lookL (l ++ ls) p = V := ⟨_, rfl⟩
 have HV := hid hV
 rw [hV]
 clear hV
 have HR := hid hR
 have HZ := hid hz
 have HC2 := hid c2
 have H2 := hid h2
 have HA := hid hA
 clear hR hz c2 h2 hA
 obtain ⟨n, hnn⟩ : ∃ n, l.length = n := ⟨_, rfl⟩
 have HN := hid hnn
 rw [hnn] at hn c1
 clear hnn
 go_enter Tryz.func155, Tryz.ntmps155
 go_wp2_with fail
 go_loopw [12] (fun k wr => ∃ i : Nat, k = .int .i64 (i : Int) /\ i <= n /\ Hid ((l.take i).find? (declB p) = none) /\ Hid (Below w.heap.size w wr)) (fun k _ => n - (intOf k).toNat)
 case atStart => exact ⟨0, rfl, Nat.zero_le _, rfl, Below.refl _ _⟩
 case round =>
  clear c1 h1
  obtain ⟨i, rfl, hi, HO, HB⟩ := hrel
  by_cases hlt : i < n
  ·have his : i < l.length := by rw [HN.out]; exact hlt
   obtain ⟨b, o, rfl, hb, c1, c2⟩ := HR.out.below HB.out i his
   have hin : (i : Int) < (n : Int) := by omega
   have HS := hid (HZ.out _ (List.getElem_mem his))
   have HIT := hid (show declB p l[i] = true -> V = some l[i].value from fun h => by rw [<- HV.out]; exact lookL_hit his HO.out h)
   have HNX := hid (show declB p l[i] = false -> (l.take (i + 1)).find? (declB p) = none from fun h => find_snoc his HO.out h)
   obtain ⟨y, hy⟩ : ∃ y, l[i] = y := ⟨_, rfl⟩
   rw [hy] at c1 c2 HS HIT HNX
   clear hy
   have CD := hid (fun wx => cDeclaredBy y wx HS.out.1)
   have CC := hid (fun wx => c_strings_Clone y.value wx HS.out.2)
   have HBX := hid (HB.out.alloc HB.out.size (.cells #[.string y.name, .string y.value] 40))
   have HBOX := hid (box_two wr (.string y.name) (.string y.value) 40)
   go_wp2_with fail
   refine (CD.out _).mono ?_
   rintro e w1 ⟨rfl, hb1⟩
   have HB1 := hid (bb HBX.out hb1)
   have d1 := (hb1.cell (p := ⟨wr.heap.size, 0, none⟩) HBOX.out.2.2).trans HBOX.out.1
   have d2 := (hb1.cell (p := ⟨wr.heap.size, 1, none⟩) HBOX.out.2.2).trans HBOX.out.2.1
   clear hb1 HBX HBOX CD c1 c2
   cases hd : declF y with
   | none =>
    have HN2 := hid (HNX.out (by unfold declB; rw [hd]; simp))
    clear hd
    go_wp2_with fail
    go_roundw
    case rel => exact ⟨i + 1, by go_num, by omega, HN2.out, HB1.out⟩
    case measure => simp [intOf]; omega
   | some q =>
    by_cases hq : q = p
    ·have hqq : (q.toList == p.toList) = true := by rw [str_beq]; exact decide_eq_true hq
     have HF := hid (HIT.out (by unfold declB; rw [hd, hq]; simp))
     clear hd hq
     go_wp2_with fail
     refine (CC.out _).mono ?_
     rintro e w2 ⟨rfl, hb2⟩
     have HB2 := hid (bb HB1.out hb2)
     clear hb2
     go_wp2_with fail
     go_ret2
     exact ⟨by rw [HF.out]; rfl, HB2.out⟩
    ·have hqq : (q.toList == p.toList) = false := by rw [str_beq]; exact decide_eq_false hq
     have HN2 := hid (HNX.out (by unfold declB; rw [hd]; simp [hq]))
     clear hd hq
     go_wp2_with fail
     go_roundw
     case rel => exact ⟨i + 1, by go_num, by omega, HN2.out, HB1.out⟩
     case measure => simp [intOf]; omega
  ·have hie : i = n := by omega
   subst hie
   have HF := hid (show lookL ls p = V by
    rw [<- HV.out]
    have h := HO.out
    rw [List.take_of_length_le (by rw [HN.out]; exact Nat.le_refl _)] at h
    exact (lookL_none ls h).symm)
   have c2 := (HB.out.cell (p := ⟨g2, 0, none⟩) H2.out).trans HC2.out
   have he := HA.out.1 p
   have CF := hid (HA.out.2 p _ HB.out hp)
   rw [HF.out] at CF
   go_wp2_with fail
   refine CF.out.mono ?_
   rintro e w2 ⟨rfl, hb2⟩
   have HB2 := hid (bb HB.out hb2)
   clear hb2 CF
   go_wp2_with fail
   go_ret2
   exact ⟨rfl, HB2.out⟩

theorem box_both (w : World) (x y : Value) (T U : TypeId) : let w' := (w.alloc (.cells #[x] T)).alloc (.cells #[y] U)
  w'.cell? ⟨w.heap.size, 0, none⟩ = some x /\ w'.cell? ⟨w.heap.size + 1, 0, none⟩ = some y /\ w'.heap.size = w.heap.size + 2 := by
 refine ⟨?_, ?_, by simp⟩
 ·rw [Lib.cell_of_heap (blk_alloc (heap_alloc_new w (.cells #[x] T)) (.cells #[y] U))]; rfl
 ·rw [Lib.cell_of_heap (heap_two w (.cells #[x] T) (.cells #[y] U))]; rfl

set_option maxHeartbeats 2000000 in
theorem cNearer (a : Option Addr) (cap : Nat) (l : List At) (F : FuncId) (C : Array Value) (ls : List At) (w : World) (hA : Asks F C w ls) (hR : AtRow w a l) (hz : AtSz 1048576 l) (hn : l.length <= 1048576) :
  Calls Tryz.prog 129 #[.slice a l.length cap, .func (.func F) #[] C] w fun e w' => ∃ C', e = .returned (.func (.func 155) #[] C') /\ Asks 155 C' w' (l ++ ls) /\ Below w.heap.size w w' := by
 have hmf : ∀ (fn : Fn) (first cap : Array Value) (w : World), (Instr.makeFunc fn first cap).run Tryz.prog w = .ok (.func fn first cap) w := fun _ _ _ _ => rfl
 have HB := hid (((Below.refl w.heap.size w).alloc (Nat.le_refl _) (.cells #[.slice a l.length cap] 24)).alloc (by simp) (.cells #[.func (.func F) #[] C] 104))
 have HX := hid (box_both w (.slice a l.length cap) (.func (.func F) #[] C) 24 104)
 have HE := hid (show Asks 155 #[.pointer (some ⟨w.heap.size, 0, none⟩), .pointer (some ⟨w.heap.size + 1, 0, none⟩)] ((w.alloc (.cells #[.slice a l.length cap] 24)).alloc (.cells #[.func (.func F) #[] C] 104)) (l ++ ls) by
  refine ⟨fun p wx => enters Tryz.func155 (by kernel_rfl) rfl _ wx, fun p wx hb hp => ?_⟩
  obtain ⟨x1, x2, x3⟩ := HX.out
  have hw := bb HB.out hb
  refine cNearer1 p _ _ a cap l F C ls wx hp (hA.below hw) ((hb.cell (p := ⟨w.heap.size, 0, none⟩) ?_).trans x1) ((hb.cell (p := ⟨w.heap.size + 1, 0, none⟩) ?_).trans x2) ?_ ?_ (hR.below hw) hz hn
  ·show w.heap.size < _; omega
  ·show w.heap.size + 1 < _; omega
  ·have := hb.size; omega
  ·have := hb.size; omega)
 clear hA hR hz HX
 generalize l.length = n at *
 go_enter Tryz.func129, Tryz.ntmps129
 go_wp2_with fail
 go_ret
 exact ⟨_, rfl, HE.out, HB.out⟩

theorem up_drop {ts : List Tk} {c : List Nat} {m : Nat} (hm : m < c.length) {t : Tk} (h : ts[c[m]]? = some t) : upAts ts (c.drop m) = t.attrs ++ upAts ts (c.drop (m + 1)) := by
 unfold upAts
 rw [List.drop_eq_getElem_cons hm, List.flatMap_cons, h]

theorem chain_out {ts : List Tk} {c : List Nat} (h : ∀ m (h : m < c.length), c[m] < ts.length /\ parI ts c[m] = kAt c (m + 1) /\ kAt c (m + 1) < (c[m] : Int)) {m : Nat} (hm : m < c.length) :
  ∃ (x : Nat) (t : Tk), x < ts.length /\ kAt c m = (x : Int) /\ t.kind = kAt c (m + 1) /\ t ∈ ts /\ upAts ts (c.drop m) = t.attrs ++ upAts ts (c.drop (m + 1)) /\
   ∀ wx a, TkRow wx a ts -> ∃ b o aa cap, a = some ⟨b, o, none⟩ /\ b < wx.heap.size /\ wx.cell? ⟨b, o + x * 4, none⟩ = some (.int .i64 t.kind) /\ wx.cell? ⟨b, o + x * 4 + 2, none⟩ = some (.slice aa t.attrs.length cap) /\ AtRow wx aa t.attrs := by
 obtain ⟨h1, h2, h3⟩ := h m hm
 refine ⟨c[m], ts[c[m]], h1, kAt_lt hm, by rw [<- parI_at h1, h2], List.getElem_mem h1, up_drop hm (List.getElem?_eq_getElem h1), fun wx a hr => ?_⟩
 obtain ⟨b, o, aa, ca, e, hb, q0, q1, q2, q3, q4⟩ := hr c[m] h1
 exact ⟨b, o, aa, ca, e, hb, q0, q2, q4⟩

set_option maxRecDepth 4000 in
set_option maxHeartbeats 4000000 in
theorem cLookupC (a : Option Addr) (cap : Nat) (ts : List Tk) (c : List Nat) (hc : ∀ m (h : m < c.length), c[m] < ts.length /\ parI ts c[m] = kAt c (m + 1) /\ kAt c (m + 1) < (c[m] : Int)) (hn : ts.length <= 1048576) (hz : TksSz 1048576 ts) :
  ∀ d m, m + d = c.length -> ∀ w, TkRow w a ts -> Calls Tryz.prog 83 #[.slice a ts.length cap, .int .i64 (kAt c m)] w fun e w' =>
   ∃ v, e = .returned (.tuple #[v, .bool ((upAts ts (c.drop m)).all rightB)]) /\ ((upAts ts (c.drop m)).all rightB = true -> ∃ F C, v = .func (.func F) #[] C /\ Asks F C w' (upAts ts (c.drop m))) /\ Below w.heap.size w w'
 | 0, m, hm, w, hR => by
  have e1 : m = c.length := by omega
  subst e1
  have e2 : upAts ts (c.drop c.length) = [] := by rw [List.drop_length]; rfl
  rw [kAt_end, e2]
  clear hR hz hc e2
  generalize ts.length = n at *
  go_enter Tryz.func83, Tryz.ntmps83
  go_wp2_with fail
  go_ret2
  exact ⟨_, rfl, fun _ => ⟨_, _, rfl, cAround _⟩, Below.refl _ _⟩
 | d + 1, m, hm, w, hR => by
  have hml : m < c.length := by omega
  have IH := hid (cLookupC a cap ts c hc hn hz d (m + 1) (by omega) w hR)
  obtain ⟨x, t, hx, ek, hk2, hts, hup, hrow⟩ := chain_out hc hml
  rw [ek, hup]
  rw [<- hk2] at IH
  have hx1 : ((x : Int) == -1) = false := by simp
  have HZT := hid (hz _ hts)
  have HROW := hid (fun wx (hb : Below w.heap.size w wx) => hrow wx _ (hR.below hb))
  obtain ⟨b, o, aa, ca, rfl, hb, c0, c2, hA⟩ := hrow w _ hR
  have hxn : (x : Int) < (ts.length : Int) := by omega
  obtain ⟨R, hRR⟩ : ∃ R, upAts ts (c.drop (m + 1)) = R := ⟨_, rfl⟩
  rw [hRR] at IH ⊢
  clear hRR hup ek hk2 hts hrow hR hz hc hx
  generalize ts.length = n at *
  have HNA := hid (HZT.out.2.1)
  have CDO := hid (fun wx aa ca (h : AtRow wx aa t.attrs) => cDeclsOk aa ca t.attrs wx h HZT.out.2.2.1 HNA.out)
  have CNR := hid (fun wx aa ca F C (hF : Asks F C wx R) (h : AtRow wx aa t.attrs) => cNearer aa ca t.attrs F C R wx hF h HZT.out.2.2.1 HNA.out)
  have HAL := hid (show (t.attrs ++ R).all rightB = (t.attrs.all rightB && R.all rightB) from List.all_append)
  rw [HAL.out]
  obtain ⟨B1, hB1⟩ : ∃ B1, t.attrs.all rightB = B1 := ⟨_, rfl⟩
  obtain ⟨B2, hB2⟩ : ∃ B2, R.all rightB = B2 := ⟨_, rfl⟩
  rw [hB1] at CDO
  rw [hB2] at IH
  rw [hB1, hB2]
  obtain ⟨V, hV⟩ : ∃ V, (B1 && B2) = V := ⟨_, rfl⟩
  have HVB := hid hV
  rw [hV]
  clear hV
  clear hB1 hB2 HAL hA
  go_enter Tryz.func83, Tryz.ntmps83
  go_wp2_with fail
  refine IH.out.mono ?_
  rintro e w1 ⟨v, rfl, hv, hb1⟩
  have HB1 := hid hb1
  have HVV := hid hv
  clear hb1 hv IH c0 c2
  cases B2 with
  | false =>
   have HV0 := hid (show V = false by rw [<- HVB.out, Bool.and_false])
   go_wp2_with fail
   go_ret2
   exact ⟨_, by rw [HV0.out]; rfl, fun h => (by rw [HV0.out] at h; cases h), HB1.out⟩
  | true =>
   obtain ⟨F, C, rfl, hF⟩ := HVV.out rfl
   have HF := hid hF
   clear hF HVV
   obtain ⟨b', o', aa, ca, e', hb, c0, c2, hA⟩ := HROW.out _ HB1.out
   obtain ⟨rfl, rfl⟩ : b = b' /\ o = o' := by cases e'; exact ⟨rfl, rfl⟩
   have HA := hid hA
   clear e' hA c0
   go_wp2_with fail
   refine (CDO.out _ _ _ HA.out).mono ?_
   rintro e w2 ⟨rfl, hb2⟩
   have HB2 := hid (bb HB1.out hb2)
   have HF2 := hid (HF.out.below hb2)
   clear hb2 c2 HA hb HF
   cases B1 with
   | false =>
    have HV0 := hid (show V = false by rw [<- HVB.out]; rfl)
    go_wp2_with fail
    go_ret2
    exact ⟨_, by rw [HV0.out]; rfl, fun h => (by rw [HV0.out] at h; cases h), HB2.out⟩
   | true =>
    obtain ⟨b', o', aa, ca, e', hb, c0, c2, hA⟩ := HROW.out _ HB2.out
    obtain ⟨rfl, rfl⟩ : b = b' /\ o = o' := by cases e'; exact ⟨rfl, rfl⟩
    have HA := hid hA
    clear e' hA c0
    go_wp2_with fail
    refine (CNR.out _ _ _ _ _ HF2.out HA.out).mono ?_
    rintro e w3 ⟨C', rfl, hF3, hb3⟩
    have HB3 := hid (bb HB2.out hb3)
    have HF3 := hid hF3
    have HV0 := hid (show V = true by rw [<- HVB.out]; rfl)
    clear hb3 hF3
    go_wp2_with fail
    go_ret2
    exact ⟨_, by rw [HV0.out]; rfl, fun _ => ⟨_, _, rfl, HF3.out⟩, HB3.out⟩

def outAts (ts : List Tk) (k : Nat) : List At := upAts ts (chainF ts (k + 1))

theorem cLookupAt (a : Option Addr) (cap : Nat) (ts : List Tk) (k : Nat) (w : World) (hR : TkRow w a ts) (hT : TreeP ts) (hk : k < ts.length) (hn : ts.length <= 1048576) (hz : TksSz 1048576 ts) :
  Calls Tryz.prog 83 #[.slice a ts.length cap, .int .i64 (k : Int)] w fun e w' =>
   ∃ v, e = .returned (.tuple #[v, .bool ((outAts ts k).all rightB)]) /\ ((outAts ts k).all rightB = true -> ∃ F C, v = .func (.func F) #[] C /\ Asks F C w' (outAts ts k)) /\ Below w.heap.size w w' := by
 obtain ⟨h1, h2⟩ := chain_at hT hk
 have h := cLookupC a cap ts _ h1 hn hz (chainF ts (k + 1)).length 0 (by omega) w hR
 rw [h2] at h
 exact h

theorem meanF_out (ts : List Tk) (k : Nat) (p : ByteArray) : meanF ts k p = meanL (outAts ts k) p := rfl

set_option maxHeartbeats 2000000 in
theorem cElementThere (a : Option Addr) (cap : Nat) (ts : List Tk) (x : Int) (w : World) (hR : TkRow w a ts) (hn : ts.length <= 1048576) (hz : TksSz 1048576 ts) :
  Calls Tryz.prog 87 #[.slice a ts.length cap, .int .i64 x] w fun e w' => e = .returned (.bool (elemB ts x)) /\ Below w.heap.size w w' := by
 have C := hid (cThere a cap ts x w hR hn hz)
 have HR := hid hR
 clear hR
 cases hh : hasB ts x with
 | false =>
  have HE := hid (show elemB ts x = false by unfold elemB; rw [hh]; rfl)
  rw [HE.out]
  rw [hh] at C
  clear hh HE HR hz
  generalize ts.length = n at *
  go_enter Tryz.func87, Tryz.ntmps87
  go_wp2_with fail
  refine C.out.mono ?_
  rintro e w1 ⟨rfl, hb1⟩
  have HB1 := hid hb1
  clear hb1 C
  go_wp2_with fail
  go_ret
  exact ⟨rfl, HB1.out⟩
 | true =>
  obtain ⟨hT, k, rfl, hk⟩ := hasB_t hh
  have HE := hid (show elemB ts (k : Int) = !decide (ts[k].name.size = 0) by unfold elemB; rw [hh]; show (true && !decide ((nameI ts k).size = 0)) = _; rw [nameI_at hk]; rfl)
  rw [HE.out]
  rw [hh] at C
  have HROW := hid (fun wx (hb : Below w.heap.size w wx) => (HR.out.below hb) k hk)
  obtain ⟨b, o, _, _, ea, -⟩ := HR.out k hk
  subst ea
  have hkn : (k : Int) < (ts.length : Int) := by omega
  have CI := hid (fun wx aa nA ca => cIsText ts[k].kind ts[k].name aa nA ca ts[k].text wx (hz _ (List.getElem_mem hk)).1)
  clear hh HE HR hz hT
  generalize decide (ts[k].name.size = 0) = D at *
  generalize ts[k].kind = K at *
  generalize ts[k].name = N at *
  generalize ts[k].text = T at *
  generalize ts[k].attrs = A at *
  generalize ts.length = n at *
  go_enter Tryz.func87, Tryz.ntmps87
  go_wp2_with fail
  refine C.out.mono ?_
  rintro e w1 ⟨rfl, hb1⟩
  obtain ⟨b', o', aa, ca, e', hb, q0, q1, q2, q3, _⟩ := HROW.out _ hb1
  obtain ⟨rfl, rfl⟩ : b = b' /\ o = o' := by cases e'; exact ⟨rfl, rfl⟩
  have HB1 := hid hb1
  clear hb1 C e' HROW
  go_wp2_with fail
  refine (CI.out _ _ _ _).mono ?_
  rintro e w2 ⟨rfl, hb2⟩
  have HB2 := hid (bb HB1.out hb2)
  clear hb2
  go_wp2_with fail
  go_ret
  exact ⟨rfl, HB2.out⟩

set_option maxHeartbeats 2000000 in
theorem cMeaningI (a : Option Addr) (cap : Nat) (ts : List Tk) (x : Int) (p : ByteArray) (w : World) (hR : TkRow w a ts) (hn : ts.length <= 1048576) (hz : TksSz 1048576 ts) (hp : p.size <= 1048576) :
  Calls Tryz.prog 89 #[.slice a ts.length cap, .int .i64 x, .string p] w fun e w' => e = .returned (.tuple #[.string ((meanI ts x p).getD ⟨#[]⟩), .bool (meanI ts x p).isSome]) /\ Below w.heap.size w w' := by
 have C := hid (cElementThere a cap ts x w hR hn hz)
 cases hh : elemB ts x with
 | false =>
  have HE := hid (show meanI ts x p = none by unfold meanI; rw [hh]; rfl)
  rw [HE.out]
  rw [hh] at C
  clear hh HE hR hz
  generalize ts.length = n at *
  go_enter Tryz.func89, Tryz.ntmps89
  go_wp2_with fail
  refine C.out.mono ?_
  rintro e w1 ⟨rfl, hb1⟩
  have HB1 := hid hb1
  clear hb1 C
  go_wp2_with fail
  go_ret2
  exact ⟨rfl, HB1.out⟩
 | true =>
  obtain ⟨hT, k, rfl, hk⟩ := elemB_t hh
  have HE := hid (show meanI ts (k : Int) p = meanL (outAts ts k) p by unfold meanI; rw [hh]; rfl)
  rw [HE.out]
  rw [hh] at C
  have CL := hid (fun wx (hb : Below w.heap.size w wx) => cLookupAt a cap ts k wx (hR.below hb) hT hk hn hz)
  clear hh HE hR hz hT hk
  generalize outAts ts k = L at *
  generalize ts.length = n at *
  obtain ⟨B, hB⟩ : ∃ B, L.all rightB = B := ⟨_, rfl⟩
  rw [hB] at CL
  have HBB := hid hB
  clear hB
  obtain ⟨V, hV⟩ : ∃ V, meanL L p = V := ⟨_, rfl⟩
  have HVV0 := hid hV
  rw [hV]
  clear hV
  go_enter Tryz.func89, Tryz.ntmps89
  go_wp2_with fail
  refine C.out.mono ?_
  rintro e w1 ⟨rfl, hb1⟩
  have CL1 := hid (CL.out _ hb1)
  have HB1 := hid hb1
  clear hb1 C CL
  go_wp2_with fail
  refine CL1.out.mono ?_
  rintro e w2 ⟨v, rfl, hv, hb2⟩
  have HB2 := hid (bb HB1.out hb2)
  have HVV := hid hv
  clear hb2 CL1 hv
  cases B with
  | false =>
   have HV0 := hid (show V = none by rw [<- HVV0.out]; exact meanL_not p HBB.out)
   go_wp2_with fail
   go_ret2
   exact ⟨by rw [HV0.out]; rfl, HB2.out⟩
  | true =>
   have HV0 := hid (show lookL L p = V by rw [<- HVV0.out]; exact (meanL_look p HBB.out).symm)
   obtain ⟨F, CC, rfl, hF⟩ := HVV.out rfl
   have he := hF.1 p
   have CF := hid (hF.2 p _ (Below.refl _ _) hp)
   clear hF HVV
   rw [HV0.out] at CF
   go_wp2_with fail
   refine CF.out.mono ?_
   rintro e w3 ⟨rfl, hb3⟩
   have HB3 := hid (bb HB2.out hb3)
   clear hb3 CF
   go_wp2_with fail
   go_ret2
   exact ⟨rfl, HB3.out⟩

theorem meanI_el {ts : List Tk} {k : Nat} {p : ByteArray} (h : elemB ts (k : Int) = true) : meanI ts (k : Int) p = meanF ts k p := by unfold meanI; rw [h]; rfl

set_option maxHeartbeats 2000000 in
theorem cKnownI (a : Option Addr) (cap : Nat) (ts : List Tk) (x : Int) (l m : ByteArray) (w : World) (hR : TkRow w a ts) (hn : ts.length <= 1048576) (hz : TksSz 1048576 ts) (hl : l.size <= 1048576) (hm : m.size <= 1048576) :
  Calls Tryz.prog 36 #[.slice a ts.length cap, .int .i64 x, .string l, .string m] w fun e w' => e = .returned (.bool (knownI ts x l m)) /\ Below w.heap.size w w' := by
 have C := hid (cElementThere a cap ts x w hR hn hz)
 cases hh : elemB ts x with
 | false =>
  have HE := hid (show knownI ts x l m = false by unfold knownI; rw [hh]; rfl)
  rw [HE.out]
  rw [hh] at C
  clear hh HE hR hz
  generalize ts.length = n at *
  go_enter Tryz.func36, Tryz.ntmps36
  go_wp2_with fail
  refine C.out.mono ?_
  rintro e w1 ⟨rfl, hb1⟩
  have HB1 := hid hb1
  clear hb1 C
  go_wp2_with fail
  go_ret
  exact ⟨rfl, HB1.out⟩
 | true =>
  obtain ⟨hT, k, rfl, hk⟩ := elemB_t hh
  have HE := hid (show knownI ts (k : Int) l m = knownN ts k l m by unfold knownI; rw [hh]; rfl)
  rw [HE.out]
  rw [hh] at C
  have hzn := name_sz hz hk
  have CP := hid (fun wx => cPartsI (nameI ts k) wx hzn)
  have CM := hid (fun wx (hb : Below w.heap.size w wx) => cMeaningI a cap ts (k : Int) (preS (nameI ts k)) wx (hR.below hb) hn hz (preS_sz hzn))
  rw [meanI_el hh] at CM
  have HROW := hid (fun wx (hb : Below w.heap.size w wx) => name_row (hR.below hb) hk)
  obtain ⟨b, o, ea, -⟩ := name_row hR hk
  subst ea
  have h1 := str_beq (locS (nameI ts k)) l
  have h2 := str_beq ((meanF ts k (preS (nameI ts k))).getD ⟨#[]⟩) m
  have hkn : (k : Int) < (ts.length : Int) := by omega
  unfold knownN
  generalize (meanF ts k (preS (nameI ts k))).isSome = I at *
  generalize (meanF ts k (preS (nameI ts k))).getD ⟨#[]⟩ = G at *
  generalize preS (nameI ts k) = P at *
  generalize locS (nameI ts k) = L at *
  generalize nameI ts k = N at *
  clear hh HE hR hz hT hk hzn
  generalize ts.length = n at *
  obtain ⟨B1, hB1⟩ : ∃ B : Bool, decide (L = l) = B := ⟨_, rfl⟩
  obtain ⟨B2, hB2⟩ : ∃ B : Bool, decide (G = m) = B := ⟨_, rfl⟩
  rw [hB1] at h1
  rw [hB2] at h2
  have HQ := hid (And.intro hB1 hB2)
  clear hB1 hB2
  go_enter Tryz.func36, Tryz.ntmps36
  go_wp2_with fail
  refine C.out.mono ?_
  rintro e w1 ⟨rfl, hb1⟩
  obtain ⟨b', o', e', c1⟩ := HROW.out _ hb1
  obtain ⟨rfl, rfl⟩ : b = b' /\ o = o' := by cases e'; exact ⟨rfl, rfl⟩
  have HB1 := hid hb1
  clear hb1 C e' HROW
  go_wp2_with fail
  refine (CP.out _).mono ?_
  rintro e w2 ⟨rfl, hb2⟩
  have HB2 := hid (bb HB1.out hb2)
  have CM2 := hid (CM.out _ HB2.out)
  clear hb2 CP CM c1
  go_wp2_with fail
  refine CM2.out.mono ?_
  rintro e w3 ⟨rfl, hb3⟩
  have HB3 := hid (bb HB2.out hb3)
  clear hb3 CM2
  cases I
  ·go_wp2_with fail
   go_ret
   exact ⟨by simp, HB3.out⟩
  ·cases B1
   ·go_wp2_with fail
    go_ret
    exact ⟨by simp [HQ.out.1], HB3.out⟩
   ·go_wp2_with fail
    go_ret
    exact ⟨by simp [HQ.out.1, HQ.out.2], HB3.out⟩

end Go.Proofs.YtlpbbkaelbafdaaGreatDoor

namespace Go.Proofs.YtlpbbkaelbafdaaGreatDoor
open Go.RowKit

theorem box5 {w : World} {g : Nat} {v0 v1 v2 v3 v4 : Value} {T : TypeId} (h : w.heap[g]? = some (.cells #[v0, v1, v2, v3, v4] T (0, 0))) :
  (w.cell? ⟨g, 0, none⟩ = some v0 /\ w.cell? ⟨g, 1, none⟩ = some v1 /\ w.cell? ⟨g, 2, none⟩ = some v2 /\ w.cell? ⟨g, 3, none⟩ = some v3 /\ w.cell? ⟨g, 4, none⟩ = some v4) /\ (w.frozen? ⟨g, 0, none⟩ = false /\ w.frozen? ⟨g, 1, none⟩ = false /\ w.frozen? ⟨g, 2, none⟩ = false /\ w.frozen? ⟨g, 3, none⟩ = false /\ w.frozen? ⟨g, 4, none⟩ = false) :=
 ⟨⟨by rw [Lib.cell_of_heap h]; rfl, by rw [Lib.cell_of_heap h]; rfl, by rw [Lib.cell_of_heap h]; rfl, by rw [Lib.cell_of_heap h]; rfl, by rw [Lib.cell_of_heap h]; rfl⟩, Lib.frozen_of_heap h 0, Lib.frozen_of_heap h 1, Lib.frozen_of_heap h 2, Lib.frozen_of_heap h 3, Lib.frozen_of_heap h 4⟩

set_option maxHeartbeats 4000000 in
theorem cTextKind (loc : ByteArray) (least : Int) (F : FuncId) (w : World) :
  Calls Tryz.prog 63 #[.string loc, .int .i64 least, .func (.func F) #[] #[]] w fun e w' => ∃ b, w.heap.size <= b /\ e = .returned (.agg #[.string loc, .int .i64 least, .int .i64 1, .func (.func 111) #[] #[.pointer (some ⟨b, 0, none⟩)], .func (.func 112) #[] #[.pointer (some ⟨b, 0, none⟩)]]) /\ w'.heap[b]? = some (.cells #[.func (.func F) #[] #[]] 92 (0, 0)) /\ Below w.heap.size w w' := by
 have hmf : ∀ (fn : Fn) (first cap : Array Value) (w : World), (Instr.makeFunc fn first cap).run Tryz.prog w = .ok (.func fn first cap) w := fun _ _ _ _ => rfl
 go_enter Tryz.func63, Tryz.ntmps63
 go_wp2_with fail
 obtain ⟨⟨y0, y1, y2, y3, y4⟩, _⟩ := box5 (q_heap2 w (.cells #[.func (.func F) #[] #[]] 92) (.cells #[.string loc, .int .i64 least, .int .i64 1, .func (.func 111) #[] #[.pointer (some ⟨w.heap.size, 0, none⟩)], .func (.func 112) #[] #[.pointer (some ⟨w.heap.size, 0, none⟩)]] 51))
 refine bodyPost_ret (v := .agg #[.string loc, .int .i64 least, .int .i64 1, .func (.func 111) #[] #[.pointer (some ⟨w.heap.size, 0, none⟩)], .func (.func 112) #[] #[.pointer (some ⟨w.heap.size, 0, none⟩)]]) (by simp [results, Tryz.results63, go_sem, y0, y1, y2, y3, y4]) rfl ⟨w.heap.size, Nat.le_refl _, rfl, blk_alloc (heap_alloc_new _ _) _, ((Below.refl w.heap.size w).alloc (Nat.le_refl _) _).alloc (by simp) _⟩

def kC (b0 b1 b3 b4 : Nat) : Array Value := #[.string (localN 0), .int .i64 1, .int .i64 1, .func (.func 111) #[] #[.pointer (some ⟨b0, 0, none⟩)], .func (.func 112) #[] #[.pointer (some ⟨b0, 0, none⟩)], .string (localN 1), .int .i64 1, .int .i64 1, .func (.func 111) #[] #[.pointer (some ⟨b1, 0, none⟩)], .func (.func 112) #[] #[.pointer (some ⟨b1, 0, none⟩)], .string (localN 2), .int .i64 1, .int .i64 1, .func (.func 66) #[] #[], .func (.func 67) #[] #[], .string (localN 3), .int .i64 1, .int .i64 1, .func (.func 111) #[] #[.pointer (some ⟨b3, 0, none⟩)], .func (.func 112) #[] #[.pointer (some ⟨b3, 0, none⟩)], .string (localN 4), .int .i64 0, .int .i64 1, .func (.func 111) #[] #[.pointer (some ⟨b4, 0, none⟩)], .func (.func 112) #[] #[.pointer (some ⟨b4, 0, none⟩)], .string (localN 5), .int .i64 0, .int .i64 4, .func (.func 70) #[] #[], .func (.func 71) #[] #[]]

structure Kinds (w : World) (B g b0 b1 b3 b4 : Nat) : Prop where
 gB : B <= g
 B0 : B <= b0
 B1 : B <= b1
 B3 : B <= b3
 B4 : B <= b4
 tab : w.heap[g]? = some (.cells (kC b0 b1 b3 b4) 51 (0, 0))
 v0 : w.heap[b0]? = some (.cells #[.func (.func 64) #[] #[]] 92 (0, 0))
 v1 : w.heap[b1]? = some (.cells #[.func (.func 65) #[] #[]] 92 (0, 0))
 v3 : w.heap[b3]? = some (.cells #[.func (.func 68) #[] #[]] 92 (0, 0))
 v4 : w.heap[b4]? = some (.cells #[.func (.func 69) #[] #[]] 92 (0, 0))

theorem Kinds.below {w w' : World} {B g b0 b1 b3 b4 : Nat} (h : Kinds w B g b0 b1 b3 b4) (hb : Below w.heap.size w w') : Kinds w' B g b0 b1 b3 b4 :=
 ⟨h.gB, h.B0, h.B1, h.B3, h.B4, blk_below h.tab hb, blk_below h.v0 hb, blk_below h.v1 hb, blk_below h.v3 hb, blk_below h.v4 hb⟩

set_option maxRecDepth 8000 in
set_option maxHeartbeats 4000000 in
theorem cKidKinds (w : World) :
  Calls Tryz.prog 21 #[] w fun e w' => ∃ g b0 b1 b3 b4, e = .returned (.slice (some ⟨g, 0, none⟩) 6 6) /\ Kinds w' w.heap.size g b0 b1 b3 b4 /\ Below w.heap.size w w' := by
 have C := hid cTextKind
 go_enter Tryz.func21, Tryz.ntmps21
 go_wp2_with fail
 refine (C.out _ _ _ _).mono ?_
 rintro e w1 ⟨b0, hb0, rfl, h0, hb1⟩
 have H0 := hid h0
 have HS0 := hid hb0
 have HB1 := hid hb1
 clear hb1 hb0 h0
 go_wp2_with fail
 refine (C.out _ _ _ _).mono ?_
 rintro e w2 ⟨b1, hb1, rfl, h1, hb2⟩
 have H1 := hid h1
 have H02 := hid (blk_below H0.out hb2)
 have HS1 := hid (Nat.le_trans HB1.out.size hb1)
 have HB2 := hid (bb HB1.out hb2)
 clear hb1 hb2 h1 H0 HB1
 go_wp2_with fail
 refine (C.out _ _ _ _).mono ?_
 rintro e w3 ⟨b3, hb3, rfl, h3, hb4⟩
 have H3 := hid h3
 have H03 := hid (blk_below H02.out hb4)
 have H13 := hid (blk_below H1.out hb4)
 have HS3 := hid (Nat.le_trans HB2.out.size hb3)
 have HB3 := hid (bb HB2.out hb4)
 clear hb3 hb4 h3 H02 H1 HB2
 go_wp2_with fail
 refine (C.out _ _ _ _).mono ?_
 rintro e w4 ⟨b4, hb4, rfl, h4, hb5⟩
 have H4 := hid h4
 have H04 := hid (blk_below H03.out hb5)
 have H14 := hid (blk_below H13.out hb5)
 have H34 := hid (blk_below H3.out hb5)
 have HS4 := hid (Nat.le_trans HB3.out.size hb4)
 have HB4 := hid (bb HB3.out hb5)
 clear hb4 hb5 h4 H03 H13 H3 HB3
 go_wp2_with fail
 go_ret
 exact ⟨_, b0, b1, b3, b4, rfl, ⟨HB4.out.size, HS0.out, HS1.out, HS3.out, HS4.out, heap_alloc_new _ _, blk_alloc H04.out _, blk_alloc H14.out _, blk_alloc H34.out _, blk_alloc H4.out _⟩, HB4.out.alloc HB4.out.size _⟩

theorem told_of {F : FuncId} {C : Array Value} {w : World} {c : Cm} {a : Option Addr} {cap : Nat} {l : List Say} {fn : Func} {cd : Code} (hf : Tryz.prog.funcs[F]? = some fn) (hname : (fn.name == "runtime.NumGoroutine") = false) (hb : fn.body = some cd)
  (h : ∀ (wx : World), Below w.heap.size w wx -> Calls Tryz.prog F (#[cmV c a cap] ++ C) wx fun e w' => ∃ a' c', e = .returned (.slice a' l.length c') /\ SayR w' wx.heap.size a' l /\ Below wx.heap.size wx w') : Told F C w c a cap l :=
 ⟨fun v wx => enters hf hname hb _ wx, h⟩

theorem Told.below {F : FuncId} {C : Array Value} {w w' : World} {c : Cm} {a : Option Addr} {cap : Nat} {l : List Say} (h : Told F C w c a cap l) (hb : Below w.heap.size w w') : Told F C w' c a cap l := ⟨h.1, fun wx hx => h.2 wx (bb hb hx)⟩

theorem kind_at {w : World} {B g b0 b1 b3 b4 : Nat} (h : Kinds w B g b0 b1 b3 b4) (c : Cm) (a : Option Addr) (cap : Nat) (hR : AtRow w a c.facts) (h4 : c.facts.length <= 1000) (hL : Laid w) (k : Nat) (hk : k < 6) :
  ∃ (le mo : Int) (F : FuncId) (C : Array Value) (F2 : FuncId) (C2 : Array Value), (w.cell? ⟨g, k * 5, none⟩ = some (.string (localN k)) /\ w.cell? ⟨g, k * 5 + 1, none⟩ = some (.int .i64 le) /\ w.cell? ⟨g, k * 5 + 2, none⟩ = some (.int .i64 mo) /\ w.cell? ⟨g, k * 5 + 3, none⟩ = some (.func (.func F) #[] C) /\ w.cell? ⟨g, k * 5 + 4, none⟩ = some (.func (.func F2) #[] C2)) /\ Told F C w c a cap (saysL c (qTx c.frm) (qTx c.til) k) := by
 have t := fun j => Lib.cell_of_heap h.tab j
 match k, hk with
 | 0, _ => exact ⟨_, _, _, _, _, _, ⟨(t 0).trans rfl, (t 1).trans rfl, (t 2).trans rfl, (t 3).trans rfl, (t 4).trans rfl⟩, told_of Tryz.func111 (by kernel_rfl) rfl (fun wx hx => cTold1 b0 _ c a cap wx (blk_below h.v0 hx))⟩
 | 1, _ => exact ⟨_, _, _, _, _, _, ⟨(t 5).trans rfl, (t 6).trans rfl, (t 7).trans rfl, (t 8).trans rfl, (t 9).trans rfl⟩, told_of Tryz.func111 (by kernel_rfl) rfl (fun wx hx => cTold2 b1 _ c a cap wx (blk_below h.v1 hx))⟩
 | 2, _ => exact ⟨_, _, _, _, _, _, ⟨(t 10).trans rfl, (t 11).trans rfl, (t 12).trans rfl, (t 13).trans rfl, (t 14).trans rfl⟩, told_of Tryz.func66 (by kernel_rfl) rfl (fun wx hx => cTermTold c a cap wx (hL.below hx))⟩
 | 3, _ => exact ⟨_, _, _, _, _, _, ⟨(t 15).trans rfl, (t 16).trans rfl, (t 17).trans rfl, (t 18).trans rfl, (t 19).trans rfl⟩, told_of Tryz.func111 (by kernel_rfl) rfl (fun wx hx => cTold3 b3 _ c a cap wx (blk_below h.v3 hx))⟩
 | 4, _ => exact ⟨_, _, _, _, _, _, ⟨(t 20).trans rfl, (t 21).trans rfl, (t 22).trans rfl, (t 23).trans rfl, (t 24).trans rfl⟩, told_of Tryz.func111 (by kernel_rfl) rfl (fun wx hx => cTold4 b4 _ c a cap wx (blk_below h.v4 hx))⟩
 | 5, _ => exact ⟨_, _, _, _, _, _, ⟨(t 25).trans rfl, (t 26).trans rfl, (t 27).trans rfl, (t 28).trans rfl, (t 29).trans rfl⟩, told_of Tryz.func70 (by kernel_rfl) rfl (fun wx hx => cFactsTold c a cap wx (hR.below hx) h4)⟩

end Go.Proofs.YtlpbbkaelbafdaaGreatDoor

namespace Go.Proofs.YtlpbbkaelbafdaaGreatDoor
open Go.RowKit

noncomputable def hearT (s : Say) (nm : ByteArray) : Int × Bool := timeOf ((valF s.attrs nm).getD ByteArray.empty).data.toList

noncomputable def hearC (k : Nat) (c : Cm) (s : Say) : Cm :=
 match k with
 | 0 => { c with iss := s.text }
 | 1 => { c with sub := s.text }
 | 2 => { c with frm := (hearT s fromS).1, til := (hearT s toS).1 }
 | 3 => { c with whom := s.text }
 | 4 => { c with ans := s.text }
 | _ => { c with facts := c.facts ++ [⟨(valF s.attrs nameS).getD ByteArray.empty, s.text⟩] }

noncomputable def hearB (k : Nat) (s : Say) : Bool :=
 match k with
 | 2 => (hearT s fromS).2 && (hearT s toS).2
 | 5 => (valF s.attrs nameS).isSome
 | _ => !decide (s.text.size = 0)

theorem hearB_two (s : Say) : hearB 2 s = ((timeOf ((valF s.attrs fromS).getD ByteArray.empty).data.toList).2 && (timeOf ((valF s.attrs toS).getD ByteArray.empty).data.toList).2) := rfl

theorem hearC_two (c : Cm) (s : Say) : hearC 2 c s = { c with frm := (timeOf ((valF s.attrs fromS).getD ByteArray.empty).data.toList).1, til := (timeOf ((valF s.attrs toS).getD ByteArray.empty).data.toList).1 } := rfl

theorem hear_len (k : Nat) (c : Cm) (s : Say) : (hearC k c s).facts.length <= c.facts.length + 1 := by
 unfold hearC
 split
 all_goals first | exact Nat.le_succ _ | (simp only [List.length_append, List.length_cons, List.length_nil]; omega)

theorem hear_fold_len (k : Nat) (l : List Say) (c : Cm) : (l.foldl (hearC k) c).facts.length <= c.facts.length + l.length := by
 induction l generalizing c with
 | nil => exact Nat.le_refl _
 | cons s l ih =>
  have h1 := ih (hearC k c s)
  have h2 := hear_len k c s
  rw [List.foldl_cons, List.length_cons]
  omega

def HrdPost (k B bc : Nat) (c : Cm) (v : Value) (s : Say) (wx : World) (e : Ending) (w' : World) : Prop :=
 e = .returned (.bool (hearB k s)) /\ ∃ v', FH B w' bc (hearC k c s) v' (hearC k c s).facts /\ KeepB (fun j => j = bc \/ v.ownBlock = some j) wx w' /\ (v'.ownBlock = v.ownBlock \/ ∃ j, v'.ownBlock = some j /\ wx.heap.size <= j)

def Heard (F : FuncId) (C : Array Value) (k bc : Nat) (w0 wK : World) : Prop :=
 (∀ p s (wx : World), (callFunc F (#[p, s] ++ C)).run Tryz.prog wx = .ok (.enter F (#[p, s] ++ C)) wx) /\
 ∀ (wx : World) (c : Cm) (v : Value) (a : Option Addr) (cap : Nat) (s : Say), KeepB (fun j => j = bc) wK wx -> Below w0.heap.size w0 wx -> FH wK.heap.size wx bc c v c.facts -> c.facts.length <= 1000 -> AtRow wx a s.attrs -> AtSz 1048576 s.attrs -> s.attrs.length <= 1048576 ->
  Calls Tryz.prog F (#[.pointer (some ⟨bc, 0, none⟩), .agg #[.slice a s.attrs.length cap, .string s.text]] ++ C) wx (HrdPost k wK.heap.size bc c v s wx)

theorem FH.keep1 {B bc : Nat} {w w' : World} {c c' : Cm} {v : Value} {fl : List At} (h : FH B w bc c v fl) (hc : ClH w' bc c' v) (hk : KeepB (fun j => j = bc) w w') : FH B w' bc c' v fl := by
 refine ⟨hc, ⟨h.own.1, ?_⟩, h.nc⟩
 rcases h.own.2 with h' | ⟨g, cap, cur, k1, k2, k3, k4⟩
 ·exact .inl h'
 ·exact .inr ⟨g, cap, cur, k1, k2, (hk.block g (lt_of_heap k3) (fun e => h.nc (by rw [k1, <- e]; rfl))).trans k3, k4⟩

theorem hrd_one {k B bc : Nat} {c : Cm} {v : Value} {s : Say} {wx w' : World} {e : Ending} (hF : FH B wx bc c v c.facts) (h1 : e = .returned (.bool (hearB k s))) (h2 : ClH w' bc (hearC k c s) v) (h3 : KeepB (fun j => j = bc) wx w') (h4 : (hearC k c s).facts = c.facts) : HrdPost k B bc c v s wx e w' := by
 refine ⟨h1, v, ?_, h3.mono (fun j e => .inl e), .inl rfl⟩
 rw [h4]
 exact hF.keep1 h2 h3

theorem heard_of {F : FuncId} {C : Array Value} {k bc : Nat} {w0 wK : World} {fn : Func} {cd : Code} (hf : Tryz.prog.funcs[F]? = some fn) (hname : (fn.name == "runtime.NumGoroutine") = false) (hb : fn.body = some cd)
  (h : ∀ (wx : World) (c : Cm) (v : Value) (a : Option Addr) (cap : Nat) (s : Say), KeepB (fun j => j = bc) wK wx -> Below w0.heap.size w0 wx -> FH wK.heap.size wx bc c v c.facts -> c.facts.length <= 1000 -> AtRow wx a s.attrs -> AtSz 1048576 s.attrs -> s.attrs.length <= 1048576 ->
   Calls Tryz.prog F (#[.pointer (some ⟨bc, 0, none⟩), .agg #[.slice a s.attrs.length cap, .string s.text]] ++ C) wx (HrdPost k wK.heap.size bc c v s wx)) : Heard F C k bc w0 wK :=
 ⟨fun p s wx => enters hf hname hb _ wx, h⟩

theorem keep_blk {w w' : World} {bc b : Nat} {o : Obj} (hk : KeepB (fun j => j = bc) w w') (h : w.heap[b]? = some o) (hne : ¬ b = bc) : w'.heap[b]? = some o := (hk.block b (lt_of_heap h) hne).trans h

def leN (k : Nat) : Int := if k < 4 then 1 else 0
def moN (k : Nat) : Int := if k < 5 then 1 else 4

theorem Kinds.keep {w w' : World} {B g b0 b1 b3 b4 bc : Nat} (h : Kinds w B g b0 b1 b3 b4) (hbc : bc < B) (hk : KeepB (fun j => j = bc) w w') : Kinds w' B g b0 b1 b3 b4 := by
 have n := fun (b : Nat) (hb : B <= b) => (show ¬ b = bc from fun e => by omega)
 exact ⟨h.gB, h.B0, h.B1, h.B3, h.B4, keep_blk hk h.tab (n _ h.gB), keep_blk hk h.v0 (n _ h.B0), keep_blk hk h.v1 (n _ h.B1), keep_blk hk h.v3 (n _ h.B3), keep_blk hk h.v4 (n _ h.B4)⟩

theorem heard_at {w0 wK wr : World} {B g b0 b1 b3 b4 bc : Nat} (h : Kinds wK B g b0 b1 b3 b4) (hr : Kinds wr B g b0 b1 b3 b4) (hbc : bc < B) (hL : Laid w0) (k : Nat) (hk : k < 6) :
  ∃ (F : FuncId) (C : Array Value) (F2 : FuncId) (C2 : Array Value), (wr.cell? ⟨g, k * 5, none⟩ = some (.string (localN k)) /\ wr.cell? ⟨g, k * 5 + 1, none⟩ = some (.int .i64 (leN k)) /\ wr.cell? ⟨g, k * 5 + 2, none⟩ = some (.int .i64 (moN k)) /\ wr.cell? ⟨g, k * 5 + 3, none⟩ = some (.func (.func F) #[] C) /\ wr.cell? ⟨g, k * 5 + 4, none⟩ = some (.func (.func F2) #[] C2)) /\ Heard F2 C2 k bc w0 wK := by
 have t := fun j => Lib.cell_of_heap hr.tab j
 have n0 : ¬ b0 = bc := fun e => by have := h.B0; omega
 have n1 : ¬ b1 = bc := fun e => by have := h.B1; omega
 have n3 : ¬ b3 = bc := fun e => by have := h.B3; omega
 have n4 : ¬ b4 = bc := fun e => by have := h.B4; omega
 match k, hk with
 | 0, _ => exact ⟨_, _, _, _, ⟨(t 0).trans rfl, (t 1).trans rfl, (t 2).trans rfl, (t 3).trans rfl, (t 4).trans rfl⟩, heard_of Tryz.func112 (by kernel_rfl) rfl (fun wx c v a cap s hK hb hF hf hA hz hl => (cHeard1 b0 bc _ c v a _ cap s.text wx (keep_blk hK h.v0 n0) hF.hc n0).mono (fun e w' p => hrd_one hF p.1 p.2.1 p.2.2 rfl))⟩
 | 1, _ => exact ⟨_, _, _, _, ⟨(t 5).trans rfl, (t 6).trans rfl, (t 7).trans rfl, (t 8).trans rfl, (t 9).trans rfl⟩, heard_of Tryz.func112 (by kernel_rfl) rfl (fun wx c v a cap s hK hb hF hf hA hz hl => (cHeard2 b1 bc _ c v a _ cap s.text wx (keep_blk hK h.v1 n1) hF.hc n1).mono (fun e w' p => hrd_one hF p.1 p.2.1 p.2.2 rfl))⟩
 | 2, _ => exact ⟨_, _, _, _, ⟨(t 10).trans rfl, (t 11).trans rfl, (t 12).trans rfl, (t 13).trans rfl, (t 14).trans rfl⟩, heard_of Tryz.func67 (by kernel_rfl) rfl (fun wx c v a cap s hK hb hF hf hA hz hl => (cTermHeard bc c v a cap s.attrs s.text wx hF.hc hA hz hl (hL.below hb)).mono (fun e w' p => hrd_one hF (by rw [hearB_two]; exact p.1) (by rw [hearC_two]; exact p.2.1) p.2.2 (by rw [hearC_two])))⟩
 | 3, _ => exact ⟨_, _, _, _, ⟨(t 15).trans rfl, (t 16).trans rfl, (t 17).trans rfl, (t 18).trans rfl, (t 19).trans rfl⟩, heard_of Tryz.func112 (by kernel_rfl) rfl (fun wx c v a cap s hK hb hF hf hA hz hl => (cHeard3 b3 bc _ c v a _ cap s.text wx (keep_blk hK h.v3 n3) hF.hc n3).mono (fun e w' p => hrd_one hF p.1 p.2.1 p.2.2 rfl))⟩
 | 4, _ => exact ⟨_, _, _, _, ⟨(t 20).trans rfl, (t 21).trans rfl, (t 22).trans rfl, (t 23).trans rfl, (t 24).trans rfl⟩, heard_of Tryz.func112 (by kernel_rfl) rfl (fun wx c v a cap s hK hb hF hf hA hz hl => (cHeard4 b4 bc _ c v a _ cap s.text wx (keep_blk hK h.v4 n4) hF.hc n4).mono (fun e w' p => hrd_one hF p.1 p.2.1 p.2.2 rfl))⟩
 | 5, _ => exact ⟨_, _, _, _, ⟨(t 25).trans rfl, (t 26).trans rfl, (t 27).trans rfl, (t 28).trans rfl, (t 29).trans rfl⟩, heard_of Tryz.func71 (by kernel_rfl) rfl (fun wx c v a cap s hK hb hF hf hA hz hl => (cFactHeard wK.heap.size bc c v c.facts a cap s.attrs s.text wx hF (by omega) hK.size hA hz hl).mono (fun e w' p => by
   obtain ⟨p1, v', p2, p3, p4⟩ := p
   exact ⟨p1, v', ⟨p2.hc, p2.own, p2.nc⟩, p3, p4⟩))⟩

end Go.Proofs.YtlpbbkaelbafdaaGreatDoor

namespace Go.Proofs.YtlpbbkaelbafdaaGreatDoor
open Go.RowKit

def SayQ (w : World) (B0 bc : Nat) (v : Value) (a : Option Addr) (l : List Say) : Prop := 0 < l.length -> ∃ b cu, a = some ⟨b, 0, none⟩ /\ w.heap[b]? = some (.cells cu 54 (0, 0)) /\ (¬ b = bc) /\ (¬ v.ownBlock = some b) /\ ∀ j (h : j < l.length), ∃ aj cj, cu[j * 2]? = some (.slice aj l[j].attrs.length cj) /\ cu[j * 2 + 1]? = some (.string l[j].text) /\ LowAts w B0 aj l[j].attrs

theorem SayT.q {w : World} {B0 B bc : Nat} {v : Value} {a : Option Addr} {l : List Say} (h : SayT w B0 B a l) (hb : bc < B) (hv : ∀ j, v.ownBlock = some j -> j < B) : SayQ w B0 bc v a l := fun hl => by
 obtain ⟨b, cu, e1, e2, e3, e4⟩ := h hl
 exact ⟨b, cu, e1, e3, fun e => by omega, fun e => by have := hv b e; omega, e4⟩

theorem LowAts.keep {w w' : World} {B0 : Nat} {p : Nat -> Prop} {a : Option Addr} {l : List At} (h : LowAts w B0 a l) (hB : B0 <= w.heap.size) (hk : KeepB p w w') (hp : ∀ j, p j -> B0 <= j) : LowAts w' B0 a l := h.below (hk.below hB hp)

theorem SayQ.keep {w w' : World} {B0 bc : Nat} {v v' : Value} {a : Option Addr} {l : List Say} (h : SayQ w B0 bc v a l) (hB : B0 <= w.heap.size) (hbc : B0 <= bc) (hv : ∀ j, v.ownBlock = some j -> B0 <= j) (hk : KeepB (fun j => j = bc \/ v.ownBlock = some j) w w') (hw : v'.ownBlock = v.ownBlock \/ ∃ j, v'.ownBlock = some j /\ w.heap.size <= j) : SayQ w' B0 bc v' a l := fun hl => by
 obtain ⟨b, cu, e1, e2, e3, e4, e5⟩ := h hl
 refine ⟨b, cu, e1, (hk.block b (lt_of_heap e2) (fun e => by rcases e with e | e; exact e3 e; exact e4 e)).trans e2, e3, fun e => ?_, fun j hj => ?_⟩
 ·rcases hw with hw | ⟨j, hw, hj⟩
  ·exact e4 (hw ▸ e)
  ·rw [hw] at e
   have := lt_of_heap e2
   have := Option.some.inj e
   omega
 ·obtain ⟨aj, cj, y0, y1, y2⟩ := e5 j hj
  exact ⟨aj, cj, y0, y1, y2.keep hB hk (fun j e => by rcases e with e | e; omega; exact hv j e)⟩

theorem SayQ.below {w w' : World} {B0 bc : Nat} {v : Value} {a : Option Addr} {l : List Say} (h : SayQ w B0 bc v a l) (hB : B0 <= w.heap.size) (hb : Below w.heap.size w w') : SayQ w' B0 bc v a l := fun hl => by
 obtain ⟨b, cu, e1, e2, e3, e4, e5⟩ := h hl
 exact ⟨b, cu, e1, blk_below e2 hb, e3, e4, fun j hj => by
  obtain ⟨aj, cj, y0, y1, y2⟩ := e5 j hj
  exact ⟨aj, cj, y0, y1, y2.below (hb.mono hB)⟩⟩

theorem keep_heard {w w' wK : World} {bc : Nat} {c : Cm} {v : Value} {fl : List At} (h : KeepB (fun j => j = bc) wK w) (hF : FH wK.heap.size w bc c v fl) (hk : KeepB (fun j => j = bc \/ v.ownBlock = some j) w w') : KeepB (fun j => j = bc) wK w' :=
 ⟨hk.os.trans h.os, hk.tape.trans h.tape, hk.output.trans h.output, Nat.le_trans h.size hk.size, fun i hi hr => (hk.block i (Nat.lt_of_lt_of_le hi h.size) (fun e => by
  rcases e with e | e
  ·exact hr e
  ·have := (hF.own.lt i e).1
   omega)).trans (h.block i hi hr)⟩

noncomputable def allB (k : Nat) (le mo : Int) (l : List Say) : Bool := decide (le <= (l.length : Int)) && decide ((l.length : Int) <= mo) && l.all (hearB k)

def AllPost (k bc : Nat) (wK : World) (c : Cm) (l : List Say) (R : Bool) (e : Ending) (w' : World) : Prop :=
 e = .returned (.bool R) /\ KeepB (fun j => j = bc) wK w' /\ (R = true -> ∃ v', FH wK.heap.size w' bc (l.foldl (hearC k) c) v' (l.foldl (hearC k) c).facts)

theorem all_take {l : List Say} {k i : Nat} (h : i < l.length) (H : ∀ x ∈ l.take i, hearB k x = true) (e : hearB k l[i] = true) : ∀ x ∈ l.take (i + 1), hearB k x = true := by
 intro x hx
 rw [List.take_succ_eq_append_getElem h] at hx
 rcases List.mem_append.1 hx with hx | hx
 ·exact H x hx
 ·rw [List.mem_singleton.1 hx]; exact e

set_option maxRecDepth 8000 in
set_option maxHeartbeats 8000000 in
theorem cAllHeard (k bc : Nat) (F : FuncId) (C : Array Value) (w0 wK : World) (H : Heard F C k bc w0 wK) (loc : ByteArray) (le mo : Int) (F1 : FuncId) (C1 : Array Value) (c : Cm) (v : Value) (al : Option Addr) (cl : Nat) (l : List Say) (w : World)
  (hK : KeepB (fun j => j = bc) wK w) (h0K : Below w0.heap.size w0 wK) (h0 : w0.heap.size <= bc) (hF : FH wK.heap.size w bc c v c.facts) (hS : SayQ w w0.heap.size bc v al l) (hn : l.length <= 900) (hfl : c.facts.length <= 50) (hsz : ∀ s ∈ l, AtSz 1048576 s.attrs /\ s.attrs.length <= 1048576) :
  Calls Tryz.prog 38 #[.agg #[.string loc, .int .i64 le, .int .i64 mo, .func (.func F1) #[] C1, .func (.func F) #[] C], .pointer (some ⟨bc, 0, none⟩), .slice al l.length cl] w (AllPost k bc wK c l (allB k le mo l)) := by
 obtain ⟨H1, H2⟩ := H
 have HH := hid H2
 have HK := hid hK
 have H0K := hid h0K
 have HF := hid hF
 have HS := hid hS
 have HZ := hid hsz
 have HX := hid (heap_alloc_new w (.cells #[.string loc, .int .i64 le, .int .i64 mo, .func (.func F1) #[] C1, .func (.func F) #[] C] 51))
 have HB0 := hid ((Below.refl w.heap.size w).alloc (Nat.le_refl _) (.cells #[.string loc, .int .i64 le, .int .i64 mo, .func (.func F1) #[] C1, .func (.func F) #[] C] 51))
 obtain ⟨wa, hwa⟩ : ∃ wa, w.alloc (.cells #[.string loc, .int .i64 le, .int .i64 mo, .func (.func F1) #[] C1, .func (.func F) #[] C] 51) = wa := ⟨_, rfl⟩
 rw [hwa] at HX HB0
 obtain ⟨kb, hkb⟩ : ∃ g, w.heap.size = g := ⟨_, rfl⟩
 rw [hkb] at HX
 have HFa := hid (HF.out.below HB0.out)
 have HKa := hid (HK.out.trans (KeepB.of_below _ HB0.out))
 have hw0w : w0.heap.size <= w.heap.size := Nat.le_trans H0K.out.size HK.out.size
 have HSa := hid (HS.out.below hw0w HB0.out)
 have HNB := hid (show ¬ v.ownBlock = some kb from fun e => by have := (hF.own.lt kb e).2; omega)
 have HNC := hid (show ¬ kb = bc from fun e => by have := lt_of_heap hF.hc; omega)
 have HA0 := hid (show allB k le mo l = (decide (le <= (l.length : Int)) && decide ((l.length : Int) <= mo) && l.all (hearB k)) from rfl)
 generalize allB k le mo l = R at *
 obtain ⟨n, hnn⟩ : ∃ n, l.length = n := ⟨_, rfl⟩
 have HN := hid hnn
 rw [hnn] at hn HA0 ⊢
 clear hnn H2 hK h0K hF hS hsz HF HS HK
 obtain ⟨⟨q0, q1, q2, q3, q4⟩, _⟩ := box5 HX.out
 by_cases h1 : (n : Int) < le
 ·obtain rfl : R = false := by rw [HA0.out, decide_eq_false (by omega)]; rfl
  have d1 : decide ((n : Int) < le) = true := decide_eq_true h1
  clear HH
  go_enter Tryz.func38, Tryz.ntmps38
  go_wp2_with fail
  go_ret
  exact ⟨rfl, HKa.out, fun h => by cases h⟩
 ·have d1 : decide ((n : Int) < le) = false := decide_eq_false h1
  by_cases h2 : mo < (n : Int)
  ·obtain rfl : R = false := by rw [HA0.out, decide_eq_false (show ¬ (n : Int) <= mo by omega), Bool.and_false]; rfl
   have d2 : decide (mo < (n : Int)) = true := decide_eq_true h2
   clear HH
   go_enter Tryz.func38, Tryz.ntmps38
   go_wp2_with fail
   go_ret
   exact ⟨rfl, HKa.out, fun h => by cases h⟩
  ·have d2 : decide (mo < (n : Int)) = false := decide_eq_false h2
   have HA1 := hid (show R = l.all (hearB k) by rw [HA0.out, decide_eq_true (show le <= (n : Int) by omega), decide_eq_true (show (n : Int) <= mo by omega)]; rfl)
   clear HA0 h1 h2
   go_enter Tryz.func38, Tryz.ntmps38
   go_wp2_with fail
   clear q0 q1 q2 q3 q4 hwa
   go_loopw [23] (fun x wr => ∃ (i : Nat) (v : Value), x = .int .i64 (i : Int) /\ i <= n /\ Hid (FH wK.heap.size wr bc ((l.take i).foldl (hearC k) c) v ((l.take i).foldl (hearC k) c).facts) /\ Hid (KeepB (fun j => j = bc) wK wr) /\ Hid (wr.heap[kb]? = some (.cells #[.string loc, .int .i64 le, .int .i64 mo, .func (.func F1) #[] C1, .func (.func F) #[] C] 51 (0, 0)) /\ ¬ v.ownBlock = some kb) /\ Hid (SayQ wr w0.heap.size bc v al l) /\ Hid (∀ x ∈ l.take i, hearB k x = true)) (fun x _ => n - (intOf x).toNat)
   case atStart => exact ⟨0, v, rfl, Nat.zero_le _, HFa.out, HKa.out, ⟨HX.out, HNB.out⟩, HSa.out, fun x hx => by simp at hx⟩
   case round =>
    clear HFa HKa HX HNB HSa HB0
    obtain ⟨i, v, rfl, hi, HF, HK, HX, HS, HO⟩ := hrel
    by_cases hlt : i < n
    ·have his : i < l.length := by rw [HN.out]; exact hlt
     have hin : (i : Int) < (n : Int) := by omega
     obtain ⟨sb, cu, rfl, hsb, hs1, hs2, hat⟩ := HS.out (by omega)
     obtain ⟨aj, cj, y0, y1, hya⟩ := hat i his
     have z0 : wr.cell? ⟨sb, i * 2, none⟩ = some (.slice aj l[i].attrs.length cj) := by rw [Lib.cell_of_heap hsb]; exact y0
     have z1 : wr.cell? ⟨sb, i * 2 + 1, none⟩ = some (.string l[i].text) := by rw [Lib.cell_of_heap hsb]; exact y1
     have HYA := hid hya
     have HT := hid (fun e => all_take his HO.out e)
     have HFD := hid (show (l.take (i + 1)).foldl (hearC k) c = hearC k ((l.take i).foldl (hearC k) c) l[i] by rw [List.take_succ_eq_append_getElem his, List.foldl_append]; rfl)
     have HFF := hid (fun (e : hearB k l[i] = false) => (List.all_eq_false.2 ⟨l[i], List.getElem_mem his, by simp [e]⟩ : l.all (hearB k) = false))
     have HFL := hid (show ((l.take i).foldl (hearC k) c).facts.length <= 1000 by have h := hear_fold_len k (l.take i) c; rw [List.length_take] at h; omega)
     have HZi := hid (HZ.out _ (List.getElem_mem his))
     clear hsb hs1 hs2 hat y0 y1 hya
     generalize l[i] = sy at *
     generalize (l.take i).foldl (hearC k) c = ci at *
     have HBa := hid ((Below.refl wr.heap.size wr).alloc (Nat.le_refl _) (.cells #[.slice aj sy.attrs.length cj, .string sy.text] 54))
     have Ha1 := hid (heap_alloc_new wr (.cells #[.slice aj sy.attrs.length cj, .string sy.text] 54))
     obtain ⟨wb, hwb⟩ : ∃ wb, wr.alloc (.cells #[.slice aj sy.attrs.length cj, .string sy.text] 54) = wb := ⟨_, rfl⟩
     rw [hwb] at HBa Ha1
     obtain ⟨⟨p0, p1⟩, _⟩ := q_box2 Ha1.out
     obtain ⟨⟨q0, q1, q2, q3, q4⟩, _⟩ := box5 (blk_below HX.out.1 HBa.out)
     have hw0r : w0.heap.size <= wr.heap.size := Nat.le_trans H0K.out.size HK.out.size
     have HKb := hid (HK.out.trans (KeepB.of_below _ HBa.out))
     have HBw := hid (show Below w0.heap.size w0 wb from H0K.out.trans (HKb.out.below H0K.out.size (fun j e => by omega)))
     have HFb := hid (HF.out.below HBa.out)
     have HSb := hid (HS.out.below hw0r HBa.out)
     have hw0b : w0.heap.size <= wb.heap.size := Nat.le_trans hw0r HBa.out.size
     have CW := hid (HH.out wb ci v aj cj sy HKb.out HBw.out HFb.out HFL.out ((HYA.out.below (HBa.out.mono hw0r)).atRow hw0b) HZi.out.1 HZi.out.2)
     have HXb := hid (And.intro (blk_below HX.out.1 HBa.out) HX.out.2)
     clear HBa Ha1 HYA HZi HX HF HS HK
     go_wp2_with fail
     refine CW.out.mono ?_
     rintro e w3 ⟨rfl, v', hf3, hk3, hv3⟩
     have HK3 := hid (keep_heard HKb.out HFb.out hk3)
     have HF3 := hid hf3
     have HS3 := hid (HSb.out.keep hw0b h0 (fun j e => Nat.le_trans H0K.out.size (HFb.out.own.lt j e).1) hk3 hv3)
     have HX3 := hid (show w3.heap[kb]? = some (.cells #[.string loc, .int .i64 le, .int .i64 mo, .func (.func F1) #[] C1, .func (.func F) #[] C] 51 (0, 0)) /\ ¬ v'.ownBlock = some kb from ⟨(hk3.block kb (lt_of_heap HXb.out.1) (fun e => by rcases e with e | e; exact HNC.out e; exact HXb.out.2 e)).trans HXb.out.1, fun e => by
      rcases hv3 with h | ⟨j, h, hj⟩
      ·exact HXb.out.2 (h ▸ e)
      ·rw [h] at e
       have := lt_of_heap HXb.out.1
       have := Option.some.inj e
       omega⟩)
     rw [<- HFD.out] at HF3
     clear hf3 hk3 hv3 CW HSb HXb HFb HKb HBw hwb p0 p1 q0 q1 q2 q3 q4 z0 z1
     generalize hearB k sy = b at *
     cases b with
     | false =>
      obtain rfl : R = false := HA1.out.trans (HFF.out rfl)
      go_wp2_with fail
      go_ret
      exact ⟨rfl, HK3.out, fun h => by cases h⟩
     | true =>
      have HT1 := hid (HT.out rfl)
      go_wp2_with fail
      go_roundw
      case rel => exact ⟨i + 1, v', by go_num, by omega, HF3.out, HK3.out, HX3.out, HS3.out, HT1.out⟩
      case measure => simp [intOf]; omega
    ·have hie : i = n := by omega
     subst hie
     have hle : l.take i = l := List.take_of_length_le (by rw [HN.out]; exact Nat.le_refl _)
     obtain rfl : R = true := HA1.out.trans (List.all_eq_true.2 (fun x hx => HO.out x (by rw [hle]; exact hx)))
     rw [hle] at HF
     clear hle
     go_wp2_with fail
     go_ret
     exact ⟨rfl, HK.out, fun _ => ⟨v, HF.out⟩⟩

end Go.Proofs.YtlpbbkaelbafdaaGreatDoor
