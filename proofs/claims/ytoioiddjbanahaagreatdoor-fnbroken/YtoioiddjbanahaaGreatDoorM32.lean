/-  -/
import Derived.Test.YtoioiddjbanahaaGreatDoorM31
import Derived.Test.YtoioiddjbanahaaGreatDoorM18
import Derived.Test.YtoioiddjbanahaaGreatDoorM27
import Derived.Test.YtoioiddjbanahaaGreatDoorM19
set_option linter.unusedVariables false
set_option linter.unusedSimpArgs false
namespace Go.Proofs.YtoioiddjbanahaaGreatDoor

open Go.RowKit

end Go.Proofs.YtoioiddjbanahaaGreatDoor

namespace Go.Proofs.YtoioiddjbanahaaGreatDoor

open Go.RowKit

noncomputable def justN (x : At) : Bool := open Classical in decide (x.name = refS) || (decide (x.name = sumS) || decide (x.name = signS))

noncomputable def justL (l : List At) : Bool := (ownA l).all justN && decide ((ownA l).length = 3)

theorem valF_cons (y : At) (l : List At) (s : ByteArray) : valF (y :: l) s = if y.name = s then some y.value else valF l s := by
 unfold valF
 rw [List.find?_cons]
 by_cases h : y.name = s
 ·rw [if_pos h, decide_eq_true h]
  rfl
 ·rw [if_neg h, decide_eq_false h]

theorem valF_own {l : List At} (hd : (l.map (·.name)).Nodup) {x : At} (hx : x ∈ l) : valF l x.name = some x.value := by
 induction l with
 | nil => cases hx
 | cons y l ih =>
  rw [List.map_cons, List.nodup_cons] at hd
  rw [valF_cons]
  rcases List.mem_cons.1 hx with h | hm
  ·rw [if_pos (by rw [h]), h]
  ·rw [if_neg, ih hd.2 hm]
   intro e
   exact hd.1 (by rw [e]; exact List.mem_map_of_mem hm)

theorem three_of {a b c r s g : ByteArray} (ha : a = r \/ a = s \/ a = g) (hb : b = r \/ b = s \/ b = g) (hc : c = r \/ c = s \/ c = g) (h1 : ¬ a = b) (h2 : ¬ a = c) (h3 : ¬ b = c) : (a = s \/ b = s \/ c = s) /\ (a = g \/ b = g \/ c = g) := by
 rcases ha with ha | ha | ha <;> rcases hb with hb | hb | hb <;> rcases hc with hc | hc | hc <;> first
  | exact absurd (ha.trans hb.symm) h1
  | exact absurd (ha.trans hc.symm) h2
  | exact absurd (hb.trans hc.symm) h3
  | exact ⟨Or.inl ha, Or.inr (Or.inl hb)⟩
  | exact ⟨Or.inl ha, Or.inr (Or.inr hc)⟩
  | exact ⟨Or.inr (Or.inl hb), Or.inl ha⟩
  | exact ⟨Or.inr (Or.inl hb), Or.inr (Or.inr hc)⟩
  | exact ⟨Or.inr (Or.inr hc), Or.inl ha⟩
  | exact ⟨Or.inr (Or.inr hc), Or.inr (Or.inl hb)⟩

theorem just_is {x : At} : justN x = true ↔ x.name = refS \/ x.name = sumS \/ x.name = signS := by
 unfold justN
 simp only [Bool.or_eq_true, decide_eq_true_eq]

theorem ownA_sub {l : List At} {x : At} (h : x ∈ ownA l) : x ∈ l := (List.mem_filter.1 h).1

theorem own_nodup {l : List At} (hd : (l.map (·.name)).Nodup) : ((ownA l).map (·.name)).Nodup := (List.Sublist.map _ List.filter_sublist).nodup hd

theorem just_has {l : List At} (hd : (l.map (·.name)).Nodup) (h : justL l = true) : (∃ x ∈ ownA l, x.name = sumS) /\ ∃ x ∈ ownA l, x.name = signS := by
 unfold justL at h
 rw [Bool.and_eq_true, decide_eq_true_eq, List.all_eq_true] at h
 have hn := own_nodup hd
 obtain ⟨h1, h2⟩ := h
 generalize ownA l = o at *
 match o, h2 with
 | [a, b, c], _ =>
  simp only [List.map_cons, List.map_nil, List.nodup_cons, List.mem_cons, List.not_mem_nil, or_false, not_or] at hn
  obtain ⟨hs, hg⟩ := three_of (just_is.1 (h1 a (by simp))) (just_is.1 (h1 b (by simp))) (just_is.1 (h1 c (by simp))) hn.1.1 hn.1.2 hn.2.1
  refine ⟨?_, ?_⟩
  ·rcases hs with e | e | e
   ·exact ⟨a, by simp, e⟩
   ·exact ⟨b, by simp, e⟩
   ·exact ⟨c, by simp, e⟩
  ·rcases hg with e | e | e
   ·exact ⟨a, by simp, e⟩
   ·exact ⟨b, by simp, e⟩
   ·exact ⟨c, by simp, e⟩

noncomputable def sealJ (l : List At) : Bool := justL l && (tenB ((valF l sumS).getD ByteArray.empty) && tenB ((valF l signS).getD ByteArray.empty))

theorem refS_sum : ¬ refS = sumS := by decide

theorem refS_sign : ¬ refS = signS := by decide

theorem seal_just {l : List At} (hd : (l.map (·.name)).Nodup) : sealL l = sealJ l := by
 rw [Bool.eq_iff_iff]
 constructor
 ·intro h
  unfold sealL at h
  rw [Bool.and_eq_true, List.all_eq_true] at h
  have hj : justL l = true := by
   unfold justL
   rw [Bool.and_eq_true, List.all_eq_true]
   refine ⟨fun x hx => ?_, h.2⟩
   have hs := h.1 x hx
   unfold sealAt at hs
   rw [just_is]
   simp only [Bool.or_eq_true, Bool.and_eq_true, decide_eq_true_eq] at hs
   rcases hs with e | ⟨e | e, _⟩
   ·exact Or.inl e
   ·exact Or.inr (Or.inl e)
   ·exact Or.inr (Or.inr e)
  obtain ⟨⟨x, hx, ex⟩, ⟨y, hy, ey⟩⟩ := just_has hd hj
  have vx := valF_own hd (ownA_sub hx)
  have vy := valF_own hd (ownA_sub hy)
  have sx := h.1 x hx
  have sy := h.1 y hy
  unfold sealAt at sx sy
  rw [ex] at vx sx
  rw [ey] at vy sy
  simp only [Bool.or_eq_true, Bool.and_eq_true, decide_eq_true_eq] at sx sy
  unfold sealJ
  rw [hj, vx, vy, Bool.true_and, Bool.and_eq_true]
  refine ⟨?_, ?_⟩
  ·rcases sx with e | ⟨_, e⟩
   ·exact absurd e.symm refS_sum
   ·exact e
  ·rcases sy with e | ⟨_, e⟩
   ·exact absurd e.symm refS_sign
   ·exact e
 ·intro h
  unfold sealJ at h
  rw [Bool.and_eq_true, Bool.and_eq_true] at h
  obtain ⟨hj, h1, h2⟩ := h
  unfold justL at hj
  rw [Bool.and_eq_true, List.all_eq_true] at hj
  unfold sealL
  rw [Bool.and_eq_true, List.all_eq_true]
  refine ⟨fun x hx => ?_, hj.2⟩
  have vx := valF_own hd (ownA_sub hx)
  unfold sealAt
  simp only [Bool.or_eq_true, Bool.and_eq_true, decide_eq_true_eq]
  rcases just_is.1 (hj.1 x hx) with e | e | e
  ·exact Or.inl e
  ·rw [e] at vx
   rw [vx] at h1
   exact Or.inr ⟨Or.inl e, h1⟩
  ·rw [e] at vx
   rw [vx] at h2
   exact Or.inr ⟨Or.inr e, h2⟩

theorem names_nd {ts : List Tk} (hT : TreeP ts) (k : Nat) : ((atsJ ts k).map (·.name)).Nodup := by
 unfold atsJ
 cases e : ts[k]? with
 | none => exact List.nodup_nil
 | some t =>
  show (t.attrs.map (·.name)).Nodup
  obtain ⟨hk, et⟩ := List.getElem?_eq_some_iff.1 e
  obtain ⟨_, hb⟩ := (hT.2.2.2.2 k hk).1
  rw [et] at hb
  unfold nodeB at hb
  split at hb
  ·rw [Bool.and_eq_true, decide_eq_true_eq] at hb
   rw [List.eq_nil_of_length_eq_zero hb.1]
   exact List.nodup_nil
  ·rw [Bool.and_eq_true, Bool.and_eq_true] at hb
   have ho : AttrsOk t.attrs := by
    by_cases q : AttrsOk t.attrs
    ·exact q
    ·rw [attrsB_f q] at hb
     cases hb.2.1
   unfold AttrsOk AtsOk at ho
   have : t.attrs.Pairwise fun a b => ¬ a.name = b.name := List.pairwise_iff_getElem.2 fun i j hi hj hij => ho.2.2 j i hj hij hj
   exact List.pairwise_map.2 this

theorem refers_is {ts : List Tk} (hI : idsB ts = true) (hT : TreeP ts) {k : Nat} (hk : k < ts.length) : refersN ts k = (!decide ((refF (atsJ ts k)).size = 0) && decide (idI ts (parI ts k) = refF (atsJ ts k))) := by
 unfold refersN idI
 have hl : parI ts k < ts.length := by
  by_cases h0 : 0 <= parI ts k
  ·have := up_lt hT hk (p := (parI ts k).toNat) (by omega)
   omega
  ·omega
 have hP : IdsP ts ts.length := by
  have h1 := hI
  unfold idsB at h1
  rw [Bool.and_eq_true] at h1
  exact @of_decide_eq_true _ (Classical.propDecidable _) h1.1
 rw [Bool.eq_iff_iff]
 simp only [Bool.and_eq_true, decide_eq_true_eq, Bool.not_eq_true', decide_eq_false_iff_not]
 constructor
 ·rintro ⟨h0, h1⟩
  have ho := hP.1 _ (mem_idsTo.2 ⟨(parI ts k).toNat, by omega, h1⟩)
  rw [if_pos ⟨hI, h0, hl⟩, h1]
  refine ⟨fun e => ?_, rfl⟩
  unfold idOk at ho
  simp [e] at ho
 ·rintro ⟨h0, h1⟩
  by_cases q : 0 <= parI ts k
  ·rw [if_pos ⟨hI, q, hl⟩] at h1
   refine ⟨q, ?_⟩
   cases e : idAt ts (parI ts k).toNat with
   | none =>
    rw [e] at h1
    rw [<- h1] at h0
    exact absurd rfl h0
   | some v =>
    rw [e] at h1
    rw [<- h1]
    rfl
  ·rw [if_neg (fun h => q h.2.1)] at h1
   rw [<- h1] at h0
   exact absurd rfl h0

theorem no_kids {ts : List Tk} (hT : TreeP ts) {k : Nat} (hk : k < ts.length) : decide ((kidsN ts k).length = 0) = decide (endN ts k = k + 1) := by
 have he := endN_le hk
 have key : (kidsN ts k).length = 0 ↔ endN ts k = k + 1 := by
  constructor
  ·intro h
   by_cases q : endN ts k = k + 1
   ·exact q
   ·have hp := first_kid hT hk (by omega)
    have hm : k + 1 ∈ kidsN ts k := by
     unfold kidsN kidsTo
     exact List.mem_filter.2 ⟨List.mem_range.2 (by omega), by rw [decide_eq_true (Nat.lt_succ_self k), decide_eq_true hp]; rfl⟩
    rw [List.length_eq_zero_iff] at h
    rw [h] at hm
    exact absurd hm List.not_mem_nil
  ·intro h
   rw [List.length_eq_zero_iff, List.eq_nil_iff_forall_not_mem]
   intro i hi
   have h1 := kidsN_lt hi
   unfold kidsN kidsTo at hi
   have h2 := (List.mem_filter.1 hi).2
   simp only [Bool.and_eq_true, decide_eq_true_eq] at h2
   exact no_kid hT hk (by omega) h1 h2.2
 by_cases q : endN ts k = k + 1
 ·rw [decide_eq_true q, decide_eq_true (key.2 q)]
 ·rw [decide_eq_false q, decide_eq_false (fun h => q (key.1 h))]

noncomputable def sealX (ts : List Tk) (x : Int) : Bool := decide (0 <= x /\ x < ts.length) && sealN ts x.toNat

theorem sealX_is {ts : List Tk} (hT : TreeP ts) (x : Int) : sealX ts x = (knownI ts x sealS sealM && (decide ((kidsI ts x).length = 0) && sealJ (atsJ ts x.toNat))) := by
 have ht : treeB ts = true := treeB_t hT
 unfold sealX knownI elemB kidsI hasB
 rw [ht]
 by_cases hx : 0 <= x /\ x < ts.length
 ·have hk : x.toNat < ts.length := by omega
  rw [decide_eq_true hx]
  simp only [Bool.true_and, if_true]
  rw [no_kids hT hk]
  unfold sealN
  rw [seal_just (names_nd hT _)]
  simp only [Bool.and_assoc]
 ·rw [decide_eq_false hx]
  simp only [Bool.and_false, Bool.false_and]

end Go.Proofs.YtoioiddjbanahaaGreatDoor

namespace Go.Proofs.YtoioiddjbanahaaGreatDoor

open Go.RowKit

noncomputable def lookL (l : List At) (p : ByteArray) : Option ByteArray := match l.find? (declB p) with | some x => some x.value | none => if p.size = 0 then some ⟨#[]⟩ else none

theorem meanL_look {l : List At} (p : ByteArray) (h : l.all rightB = true) : meanL l p = lookL l p := by
 unfold meanL lookL
 rw [if_pos h]
 rfl

theorem meanL_not {l : List At} (p : ByteArray) (h : l.all rightB = false) : meanL l p = none := by unfold meanL; rw [if_neg (by rw [h]; exact Bool.false_ne_true)]

theorem lookL_hit {l ls : List At} {p : ByteArray} {i : Nat} (h : i < l.length) (h0 : (l.take i).find? (declB p) = none) (h1 : declB p l[i] = true) : lookL (l ++ ls) p = some l[i].value := by
 have e : l.find? (declB p) = some l[i] := by
  rw [List.find?_eq_some_iff_getElem]
  refine ⟨h1, i, h, rfl, fun j hj => ?_⟩
  have h2 := List.find?_eq_none.1 h0 l[j] (List.mem_take_iff_getElem.2 ⟨j, by omega, rfl⟩)
  simpa using h2
 unfold lookL
 rw [List.find?_append, e]
 rfl

theorem lookL_none {l : List At} (ls : List At) {p : ByteArray} (h : l.find? (declB p) = none) : lookL (l ++ ls) p = lookL ls p := by
 unfold lookL
 rw [List.find?_append, h]
 rfl

theorem find_snoc {l : List At} {p : ByteArray} {i : Nat} (h : i < l.length) (h0 : (l.take i).find? (declB p) = none) (h1 : declB p l[i] = false) : (l.take (i + 1)).find? (declB p) = none := by
 rw [take_snocN h, List.find?_append, h0]
 simp [h1]

def Asks (F : FuncId) (C : Array Value) (w : World) (l : List At) : Prop :=
 (∀ p (wx : World), (callFunc F (#[.string p] ++ C)).run Tryz.prog wx = .ok (.enter F (#[.string p] ++ C)) wx) /\
 ∀ p (wx : World), Below w.heap.size w wx -> p.size <= 1048576 -> Calls Tryz.prog F (#[.string p] ++ C) wx fun e w' => e = .returned (.tuple #[.string ((lookL l p).getD ⟨#[]⟩), .bool (lookL l p).isSome]) /\ Below wx.heap.size wx w'

theorem Asks.below {F : FuncId} {C : Array Value} {w w' : World} {l : List At} (h : Asks F C w l) (hb : Below w.heap.size w w') : Asks F C w' l := ⟨h.1, fun p wx hx hp => h.2 p wx (bb hb hx) hp⟩

theorem enters {f : FuncId} {fn : Func} {c : Code} (hf : Tryz.prog.funcs[f]? = some fn) (hname : (fn.name == "runtime.NumGoroutine") = false) (hb : fn.body = some c) (args : Array Value) (w : World) :
  (callFunc f args).run Tryz.prog w = .ok (.enter f args) w := by
 have h1 : fn.name ≠ "runtime.NumGoroutine" := by simpa using hname
 simp [callFunc, hf, h1, hb]

theorem cAround (w : World) : Asks 102 #[] w [] := by
 refine ⟨fun p wx => enters Tryz.func102 (by kernel_rfl) rfl _ wx, fun p wx hb hp => ?_⟩
 show Calls Tryz.prog 102 #[.string p] wx _
 have e1 : (lookL [] p).getD ⟨#[]⟩ = ⟨#[]⟩ := by
  unfold lookL
  simp only [List.find?_nil]
  split <;> rfl
 have e2 : (lookL [] p).isSome = decide (p.size = 0) := by
  unfold lookL
  simp only [List.find?_nil]
  split
  ·rename_i h; rw [decide_eq_true h]; rfl
  ·rename_i h; rw [decide_eq_false h]; rfl
 rw [e1, e2]
 have E := empty_is p
 generalize decide (p.size = 0) = D at *
 clear e1 e2
 go_enter Tryz.func102, Tryz.ntmps102
 go_wp2_with fail
 go_ret2
 exact ⟨rfl, Below.refl _ _⟩

set_option maxRecDepth 4000 in
set_option maxHeartbeats 2000000 in
theorem cNearer1 (p : ByteArray) (g1 g2 : Nat) (a : Option Addr) (cap : Nat) (l : List At) (F : FuncId) (C : Array Value) (ls : List At) (w : World) (hp : p.size <= 1048576) (hA : Asks F C w ls)
  (c1 : w.cell? ⟨g1, 0, none⟩ = some (.slice a l.length cap)) (c2 : w.cell? ⟨g2, 0, none⟩ = some (.func (.func F) #[] C)) (h1 : g1 < w.heap.size) (h2 : g2 < w.heap.size) (hR : AtRow w a l) (hz : AtSz 1048576 l) (hn : l.length <= 1048576) :
  Calls Tryz.prog 148 #[.string p, .pointer (some ⟨g1, 0, none⟩), .pointer (some ⟨g2, 0, none⟩)] w fun e w' => e = .returned (.tuple #[.string ((lookL (l ++ ls) p).getD ⟨#[]⟩), .bool (lookL (l ++ ls) p).isSome]) /\ Below w.heap.size w w' := by
 obtain ⟨V, hV⟩ : ∃ V, lookL (l ++ ls) p = V := ⟨_, rfl⟩
 have HV := hid hV
 rw [hV]
 clear hV
 have HR := hid hR
 have HZ := hid hz
 have HC2 := hid c2
 have H2 := hid h2
 have HA := hid hA
 clear hR hz c2 h2 hA
 obtain ⟨n, hnn⟩ : ∃ n, l.length = n := ⟨_, rfl⟩
 have HN := hid hnn
 rw [hnn] at hn c1
 clear hnn
 go_enter Tryz.func148, Tryz.ntmps148
 go_wp2_with fail
 go_loopw [12] (fun k wr => ∃ i : Nat, k = .int .i64 (i : Int) /\ i <= n /\ Hid ((l.take i).find? (declB p) = none) /\ Hid (Below w.heap.size w wr)) (fun k _ => n - (intOf k).toNat)
 case atStart => exact ⟨0, rfl, Nat.zero_le _, rfl, Below.refl _ _⟩
 case round =>
  clear c1 h1
  obtain ⟨i, rfl, hi, HO, HB⟩ := hrel
  by_cases hlt : i < n
  ·have his : i < l.length := by rw [HN.out]; exact hlt
   obtain ⟨b, o, rfl, hb, c1, c2⟩ := HR.out.below HB.out i his
   have hin : (i : Int) < (n : Int) := by omega
   have HS := hid (HZ.out _ (List.getElem_mem his))
   have HIT := hid (show declB p l[i] = true -> V = some l[i].value from fun h => by rw [<- HV.out]; exact lookL_hit his HO.out h)
   have HNX := hid (show declB p l[i] = false -> (l.take (i + 1)).find? (declB p) = none from fun h => find_snoc his HO.out h)
   obtain ⟨y, hy⟩ : ∃ y, l[i] = y := ⟨_, rfl⟩
   rw [hy] at c1 c2 HS HIT HNX
   clear hy
   have CD := hid (fun wx => cDeclaredBy y wx HS.out.1)
   have CC := hid (fun wx => c_strings_Clone y.value wx HS.out.2)
   have HBX := hid (HB.out.alloc HB.out.size (.cells #[.string y.name, .string y.value] 67))
   have HBOX := hid (box_two wr (.string y.name) (.string y.value) 67)
   go_wp2_with fail
   refine (CD.out _).mono ?_
   rintro e w1 ⟨rfl, hb1⟩
   have HB1 := hid (bb HBX.out hb1)
   have d1 := (hb1.cell (p := ⟨wr.heap.size, 0, none⟩) HBOX.out.2.2).trans HBOX.out.1
   have d2 := (hb1.cell (p := ⟨wr.heap.size, 1, none⟩) HBOX.out.2.2).trans HBOX.out.2.1
   clear hb1 HBX HBOX CD c1 c2
   cases hd : declF y with
   | none =>
    have HN2 := hid (HNX.out (by unfold declB; rw [hd]; simp))
    clear hd
    go_wp2_with fail
    go_roundw
    case rel => exact ⟨i + 1, by go_num, by omega, HN2.out, HB1.out⟩
    case measure => simp [intOf]; omega
   | some q =>
    by_cases hq : q = p
    ·have hqq : (q.toList == p.toList) = true := by rw [str_beq]; exact decide_eq_true hq
     have HF := hid (HIT.out (by unfold declB; rw [hd, hq]; simp))
     clear hd hq
     go_wp2_with fail
     refine (CC.out _).mono ?_
     rintro e w2 ⟨rfl, hb2⟩
     have HB2 := hid (bb HB1.out hb2)
     clear hb2
     go_wp2_with fail
     go_ret2
     exact ⟨by rw [HF.out]; rfl, HB2.out⟩
    ·have hqq : (q.toList == p.toList) = false := by rw [str_beq]; exact decide_eq_false hq
     have HN2 := hid (HNX.out (by unfold declB; rw [hd]; simp [hq]))
     clear hd hq
     go_wp2_with fail
     go_roundw
     case rel => exact ⟨i + 1, by go_num, by omega, HN2.out, HB1.out⟩
     case measure => simp [intOf]; omega
  ·have hie : i = n := by omega
   subst hie
   have HF := hid (show lookL ls p = V by
    rw [<- HV.out]
    have h := HO.out
    rw [List.take_of_length_le (by rw [HN.out]; exact Nat.le_refl _)] at h
    exact (lookL_none ls h).symm)
   have c2 := (HB.out.cell (p := ⟨g2, 0, none⟩) H2.out).trans HC2.out
   have he := HA.out.1 p
   have CF := hid (HA.out.2 p _ HB.out hp)
   rw [HF.out] at CF
   go_wp2_with fail
   refine CF.out.mono ?_
   rintro e w2 ⟨rfl, hb2⟩
   have HB2 := hid (bb HB.out hb2)
   clear hb2 CF
   go_wp2_with fail
   go_ret2
   exact ⟨rfl, HB2.out⟩

theorem box_both (w : World) (x y : Value) (T U : TypeId) : let w' := (w.alloc (.cells #[x] T)).alloc (.cells #[y] U)
  w'.cell? ⟨w.heap.size, 0, none⟩ = some x /\ w'.cell? ⟨w.heap.size + 1, 0, none⟩ = some y /\ w'.heap.size = w.heap.size + 2 := by
 refine ⟨?_, ?_, by simp⟩
 ·rw [Lib.cell_of_heap (blk_alloc (heap_alloc_new w (.cells #[x] T)) (.cells #[y] U))]; rfl
 ·rw [Lib.cell_of_heap (heap_two w (.cells #[x] T) (.cells #[y] U))]; rfl

set_option maxHeartbeats 2000000 in
theorem cNearer (a : Option Addr) (cap : Nat) (l : List At) (F : FuncId) (C : Array Value) (ls : List At) (w : World) (hA : Asks F C w ls) (hR : AtRow w a l) (hz : AtSz 1048576 l) (hn : l.length <= 1048576) :
  Calls Tryz.prog 104 #[.slice a l.length cap, .func (.func F) #[] C] w fun e w' => ∃ C', e = .returned (.func (.func 148) #[] C') /\ Asks 148 C' w' (l ++ ls) /\ Below w.heap.size w w' := by
 have hmf : ∀ (fn : Fn) (first cap : Array Value) (w : World), (Instr.makeFunc fn first cap).run Tryz.prog w = .ok (.func fn first cap) w := fun _ _ _ _ => rfl
 have HB := hid (((Below.refl w.heap.size w).alloc (Nat.le_refl _) (.cells #[.slice a l.length cap] 30)).alloc (by simp) (.cells #[.func (.func F) #[] C] 97))
 have HX := hid (box_both w (.slice a l.length cap) (.func (.func F) #[] C) 30 97)
 have HE := hid (show Asks 148 #[.pointer (some ⟨w.heap.size, 0, none⟩), .pointer (some ⟨w.heap.size + 1, 0, none⟩)] ((w.alloc (.cells #[.slice a l.length cap] 30)).alloc (.cells #[.func (.func F) #[] C] 97)) (l ++ ls) by
  refine ⟨fun p wx => enters Tryz.func148 (by kernel_rfl) rfl _ wx, fun p wx hb hp => ?_⟩
  obtain ⟨x1, x2, x3⟩ := HX.out
  have hw := bb HB.out hb
  refine cNearer1 p _ _ a cap l F C ls wx hp (hA.below hw) ((hb.cell (p := ⟨w.heap.size, 0, none⟩) ?_).trans x1) ((hb.cell (p := ⟨w.heap.size + 1, 0, none⟩) ?_).trans x2) ?_ ?_ (hR.below hw) hz hn
  ·show w.heap.size < _; omega
  ·show w.heap.size + 1 < _; omega
  ·have := hb.size; omega
  ·have := hb.size; omega)
 clear hA hR hz HX
 generalize l.length = n at *
 go_enter Tryz.func104, Tryz.ntmps104
 go_wp2_with fail
 go_ret
 exact ⟨_, rfl, HE.out, HB.out⟩

theorem up_drop {ts : List Tk} {c : List Nat} {m : Nat} (hm : m < c.length) {t : Tk} (h : ts[c[m]]? = some t) : upAts ts (c.drop m) = t.attrs ++ upAts ts (c.drop (m + 1)) := by
 unfold upAts
 rw [List.drop_eq_getElem_cons hm, List.flatMap_cons, h]

theorem chain_out {ts : List Tk} {c : List Nat} (h : ∀ m (h : m < c.length), c[m] < ts.length /\ parI ts c[m] = kAt c (m + 1) /\ kAt c (m + 1) < (c[m] : Int)) {m : Nat} (hm : m < c.length) :
  ∃ (x : Nat) (t : Tk), x < ts.length /\ kAt c m = (x : Int) /\ t.kind = kAt c (m + 1) /\ t ∈ ts /\ upAts ts (c.drop m) = t.attrs ++ upAts ts (c.drop (m + 1)) /\
   ∀ wx a, TkRow wx a ts -> ∃ b o aa cap, a = some ⟨b, o, none⟩ /\ b < wx.heap.size /\ wx.cell? ⟨b, o + x * 4, none⟩ = some (.int .i64 t.kind) /\ wx.cell? ⟨b, o + x * 4 + 2, none⟩ = some (.slice aa t.attrs.length cap) /\ AtRow wx aa t.attrs := by
 obtain ⟨h1, h2, h3⟩ := h m hm
 refine ⟨c[m], ts[c[m]], h1, kAt_lt hm, by rw [<- parI_at h1, h2], List.getElem_mem h1, up_drop hm (List.getElem?_eq_getElem h1), fun wx a hr => ?_⟩
 obtain ⟨b, o, aa, ca, e, hb, q0, q1, q2, q3, q4⟩ := hr c[m] h1
 exact ⟨b, o, aa, ca, e, hb, q0, q2, q4⟩

set_option maxRecDepth 4000 in
set_option maxHeartbeats 4000000 in
theorem cLookupC (a : Option Addr) (cap : Nat) (ts : List Tk) (c : List Nat) (hc : ∀ m (h : m < c.length), c[m] < ts.length /\ parI ts c[m] = kAt c (m + 1) /\ kAt c (m + 1) < (c[m] : Int)) (hn : ts.length <= 1048576) (hz : TksSz 1048576 ts) :
  ∀ d m, m + d = c.length -> ∀ w, TkRow w a ts -> Calls Tryz.prog 54 #[.slice a ts.length cap, .int .i64 (kAt c m)] w fun e w' =>
   ∃ v, e = .returned (.tuple #[v, .bool ((upAts ts (c.drop m)).all rightB)]) /\ ((upAts ts (c.drop m)).all rightB = true -> ∃ F C, v = .func (.func F) #[] C /\ Asks F C w' (upAts ts (c.drop m))) /\ Below w.heap.size w w'
 | 0, m, hm, w, hR => by
  have e1 : m = c.length := by omega
  subst e1
  have e2 : upAts ts (c.drop c.length) = [] := by rw [List.drop_length]; rfl
  rw [kAt_end, e2]
  clear hR hz hc e2
  generalize ts.length = n at *
  go_enter Tryz.func54, Tryz.ntmps54
  go_wp2_with fail
  go_ret2
  exact ⟨_, rfl, fun _ => ⟨_, _, rfl, cAround _⟩, Below.refl _ _⟩
 | d + 1, m, hm, w, hR => by
  have hml : m < c.length := by omega
  have IH := hid (cLookupC a cap ts c hc hn hz d (m + 1) (by omega) w hR)
  obtain ⟨x, t, hx, ek, hk2, hts, hup, hrow⟩ := chain_out hc hml
  rw [ek, hup]
  rw [<- hk2] at IH
  have hx1 : ((x : Int) == -1) = false := by simp
  have HZT := hid (hz _ hts)
  have HROW := hid (fun wx (hb : Below w.heap.size w wx) => hrow wx _ (hR.below hb))
  obtain ⟨b, o, aa, ca, rfl, hb, c0, c2, hA⟩ := hrow w _ hR
  have hxn : (x : Int) < (ts.length : Int) := by omega
  obtain ⟨R, hRR⟩ : ∃ R, upAts ts (c.drop (m + 1)) = R := ⟨_, rfl⟩
  rw [hRR] at IH ⊢
  clear hRR hup ek hk2 hts hrow hR hz hc hx
  generalize ts.length = n at *
  have HNA := hid (HZT.out.2.1)
  have CDO := hid (fun wx aa ca (h : AtRow wx aa t.attrs) => cDeclsOk aa ca t.attrs wx h HZT.out.2.2.1 HNA.out)
  have CNR := hid (fun wx aa ca F C (hF : Asks F C wx R) (h : AtRow wx aa t.attrs) => cNearer aa ca t.attrs F C R wx hF h HZT.out.2.2.1 HNA.out)
  have HAL := hid (show (t.attrs ++ R).all rightB = (t.attrs.all rightB && R.all rightB) from List.all_append)
  rw [HAL.out]
  obtain ⟨B1, hB1⟩ : ∃ B1, t.attrs.all rightB = B1 := ⟨_, rfl⟩
  obtain ⟨B2, hB2⟩ : ∃ B2, R.all rightB = B2 := ⟨_, rfl⟩
  rw [hB1] at CDO
  rw [hB2] at IH
  rw [hB1, hB2]
  obtain ⟨V, hV⟩ : ∃ V, (B1 && B2) = V := ⟨_, rfl⟩
  have HVB := hid hV
  rw [hV]
  clear hV
  clear hB1 hB2 HAL hA
  go_enter Tryz.func54, Tryz.ntmps54
  go_wp2_with fail
  refine IH.out.mono ?_
  rintro e w1 ⟨v, rfl, hv, hb1⟩
  have HB1 := hid hb1
  have HVV := hid hv
  clear hb1 hv IH c0 c2
  cases B2 with
  | false =>
   have HV0 := hid (show V = false by rw [<- HVB.out, Bool.and_false])
   go_wp2_with fail
   go_ret2
   exact ⟨_, by rw [HV0.out]; rfl, fun h => (by rw [HV0.out] at h; cases h), HB1.out⟩
  | true =>
   obtain ⟨F, C, rfl, hF⟩ := HVV.out rfl
   have HF := hid hF
   clear hF HVV
   obtain ⟨b', o', aa, ca, e', hb, c0, c2, hA⟩ := HROW.out _ HB1.out
   obtain ⟨rfl, rfl⟩ : b = b' /\ o = o' := by cases e'; exact ⟨rfl, rfl⟩
   have HA := hid hA
   clear e' hA c0
   go_wp2_with fail
   refine (CDO.out _ _ _ HA.out).mono ?_
   rintro e w2 ⟨rfl, hb2⟩
   have HB2 := hid (bb HB1.out hb2)
   have HF2 := hid (HF.out.below hb2)
   clear hb2 c2 HA hb HF
   cases B1 with
   | false =>
    have HV0 := hid (show V = false by rw [<- HVB.out]; rfl)
    go_wp2_with fail
    go_ret2
    exact ⟨_, by rw [HV0.out]; rfl, fun h => (by rw [HV0.out] at h; cases h), HB2.out⟩
   | true =>
    obtain ⟨b', o', aa, ca, e', hb, c0, c2, hA⟩ := HROW.out _ HB2.out
    obtain ⟨rfl, rfl⟩ : b = b' /\ o = o' := by cases e'; exact ⟨rfl, rfl⟩
    have HA := hid hA
    clear e' hA c0
    go_wp2_with fail
    refine (CNR.out _ _ _ _ _ HF2.out HA.out).mono ?_
    rintro e w3 ⟨C', rfl, hF3, hb3⟩
    have HB3 := hid (bb HB2.out hb3)
    have HF3 := hid hF3
    have HV0 := hid (show V = true by rw [<- HVB.out]; rfl)
    clear hb3 hF3
    go_wp2_with fail
    go_ret2
    exact ⟨_, by rw [HV0.out]; rfl, fun _ => ⟨_, _, rfl, HF3.out⟩, HB3.out⟩

def outAts (ts : List Tk) (k : Nat) : List At := upAts ts (chainF ts (k + 1))

theorem cLookupAt (a : Option Addr) (cap : Nat) (ts : List Tk) (k : Nat) (w : World) (hR : TkRow w a ts) (hT : TreeP ts) (hk : k < ts.length) (hn : ts.length <= 1048576) (hz : TksSz 1048576 ts) :
  Calls Tryz.prog 54 #[.slice a ts.length cap, .int .i64 (k : Int)] w fun e w' =>
   ∃ v, e = .returned (.tuple #[v, .bool ((outAts ts k).all rightB)]) /\ ((outAts ts k).all rightB = true -> ∃ F C, v = .func (.func F) #[] C /\ Asks F C w' (outAts ts k)) /\ Below w.heap.size w w' := by
 obtain ⟨h1, h2⟩ := chain_at hT hk
 have h := cLookupC a cap ts _ h1 hn hz (chainF ts (k + 1)).length 0 (by omega) w hR
 rw [h2] at h
 exact h

theorem meanF_out (ts : List Tk) (k : Nat) (p : ByteArray) : meanF ts k p = meanL (outAts ts k) p := rfl

set_option maxHeartbeats 2000000 in
theorem cElementThere (a : Option Addr) (cap : Nat) (ts : List Tk) (x : Int) (w : World) (hR : TkRow w a ts) (hn : ts.length <= 1048576) (hz : TksSz 1048576 ts) :
  Calls Tryz.prog 117 #[.slice a ts.length cap, .int .i64 x] w fun e w' => e = .returned (.bool (elemB ts x)) /\ Below w.heap.size w w' := by
 have C := hid (cThere a cap ts x w hR hn hz)
 have HR := hid hR
 clear hR
 cases hh : hasB ts x with
 | false =>
  have HE := hid (show elemB ts x = false by unfold elemB; rw [hh]; rfl)
  rw [HE.out]
  rw [hh] at C
  clear hh HE HR hz
  generalize ts.length = n at *
  go_enter Tryz.func117, Tryz.ntmps117
  go_wp2_with fail
  refine C.out.mono ?_
  rintro e w1 ⟨rfl, hb1⟩
  have HB1 := hid hb1
  clear hb1 C
  go_wp2_with fail
  go_ret
  exact ⟨rfl, HB1.out⟩
 | true =>
  obtain ⟨hT, k, rfl, hk⟩ := hasB_t hh
  have HE := hid (show elemB ts (k : Int) = !decide (ts[k].name.size = 0) by unfold elemB; rw [hh]; show (true && !decide ((nameI ts k).size = 0)) = _; rw [nameI_at hk]; rfl)
  rw [HE.out]
  rw [hh] at C
  have HROW := hid (fun wx (hb : Below w.heap.size w wx) => (HR.out.below hb) k hk)
  obtain ⟨b, o, _, _, ea, -⟩ := HR.out k hk
  subst ea
  have hkn : (k : Int) < (ts.length : Int) := by omega
  have CI := hid (fun wx aa nA ca => cIsText ts[k].kind ts[k].name aa nA ca ts[k].text wx (hz _ (List.getElem_mem hk)).1)
  clear hh HE HR hz hT
  generalize decide (ts[k].name.size = 0) = D at *
  generalize ts[k].kind = K at *
  generalize ts[k].name = N at *
  generalize ts[k].text = T at *
  generalize ts[k].attrs = A at *
  generalize ts.length = n at *
  go_enter Tryz.func117, Tryz.ntmps117
  go_wp2_with fail
  refine C.out.mono ?_
  rintro e w1 ⟨rfl, hb1⟩
  obtain ⟨b', o', aa, ca, e', hb, q0, q1, q2, q3, _⟩ := HROW.out _ hb1
  obtain ⟨rfl, rfl⟩ : b = b' /\ o = o' := by cases e'; exact ⟨rfl, rfl⟩
  have HB1 := hid hb1
  clear hb1 C e' HROW
  go_wp2_with fail
  refine (CI.out _ _ _ _).mono ?_
  rintro e w2 ⟨rfl, hb2⟩
  have HB2 := hid (bb HB1.out hb2)
  clear hb2
  go_wp2_with fail
  go_ret
  exact ⟨rfl, HB2.out⟩

set_option maxHeartbeats 2000000 in
theorem cMeaningI (a : Option Addr) (cap : Nat) (ts : List Tk) (x : Int) (p : ByteArray) (w : World) (hR : TkRow w a ts) (hn : ts.length <= 1048576) (hz : TksSz 1048576 ts) (hp : p.size <= 1048576) :
  Calls Tryz.prog 155 #[.slice a ts.length cap, .int .i64 x, .string p] w fun e w' => e = .returned (.tuple #[.string ((meanI ts x p).getD ⟨#[]⟩), .bool (meanI ts x p).isSome]) /\ Below w.heap.size w w' := by
 have C := hid (cElementThere a cap ts x w hR hn hz)
 cases hh : elemB ts x with
 | false =>
  have HE := hid (show meanI ts x p = none by unfold meanI; rw [hh]; rfl)
  rw [HE.out]
  rw [hh] at C
  clear hh HE hR hz
  generalize ts.length = n at *
  go_enter Tryz.func155, Tryz.ntmps155
  go_wp2_with fail
  refine C.out.mono ?_
  rintro e w1 ⟨rfl, hb1⟩
  have HB1 := hid hb1
  clear hb1 C
  go_wp2_with fail
  go_ret2
  exact ⟨rfl, HB1.out⟩
 | true =>
  obtain ⟨hT, k, rfl, hk⟩ := elemB_t hh
  have HE := hid (show meanI ts (k : Int) p = meanL (outAts ts k) p by unfold meanI; rw [hh]; rfl)
  rw [HE.out]
  rw [hh] at C
  have CL := hid (fun wx (hb : Below w.heap.size w wx) => cLookupAt a cap ts k wx (hR.below hb) hT hk hn hz)
  clear hh HE hR hz hT hk
  generalize outAts ts k = L at *
  generalize ts.length = n at *
  obtain ⟨B, hB⟩ : ∃ B, L.all rightB = B := ⟨_, rfl⟩
  rw [hB] at CL
  have HBB := hid hB
  clear hB
  obtain ⟨V, hV⟩ : ∃ V, meanL L p = V := ⟨_, rfl⟩
  have HVV0 := hid hV
  rw [hV]
  clear hV
  go_enter Tryz.func155, Tryz.ntmps155
  go_wp2_with fail
  refine C.out.mono ?_
  rintro e w1 ⟨rfl, hb1⟩
  have CL1 := hid (CL.out _ hb1)
  have HB1 := hid hb1
  clear hb1 C CL
  go_wp2_with fail
  refine CL1.out.mono ?_
  rintro e w2 ⟨v, rfl, hv, hb2⟩
  have HB2 := hid (bb HB1.out hb2)
  have HVV := hid hv
  clear hb2 CL1 hv
  cases B with
  | false =>
   have HV0 := hid (show V = none by rw [<- HVV0.out]; exact meanL_not p HBB.out)
   go_wp2_with fail
   go_ret2
   exact ⟨by rw [HV0.out]; rfl, HB2.out⟩
  | true =>
   have HV0 := hid (show lookL L p = V by rw [<- HVV0.out]; exact (meanL_look p HBB.out).symm)
   obtain ⟨F, CC, rfl, hF⟩ := HVV.out rfl
   have he := hF.1 p
   have CF := hid (hF.2 p _ (Below.refl _ _) hp)
   clear hF HVV
   rw [HV0.out] at CF
   go_wp2_with fail
   refine CF.out.mono ?_
   rintro e w3 ⟨rfl, hb3⟩
   have HB3 := hid (bb HB2.out hb3)
   clear hb3 CF
   go_wp2_with fail
   go_ret2
   exact ⟨rfl, HB3.out⟩

theorem meanI_el {ts : List Tk} {k : Nat} {p : ByteArray} (h : elemB ts (k : Int) = true) : meanI ts (k : Int) p = meanF ts k p := by unfold meanI; rw [h]; rfl

set_option maxHeartbeats 2000000 in
theorem cKnownI (a : Option Addr) (cap : Nat) (ts : List Tk) (x : Int) (l m : ByteArray) (w : World) (hR : TkRow w a ts) (hn : ts.length <= 1048576) (hz : TksSz 1048576 ts) (hl : l.size <= 1048576) (hm : m.size <= 1048576) :
  Calls Tryz.prog 111 #[.slice a ts.length cap, .int .i64 x, .string l, .string m] w fun e w' => e = .returned (.bool (knownI ts x l m)) /\ Below w.heap.size w w' := by
 have C := hid (cElementThere a cap ts x w hR hn hz)
 cases hh : elemB ts x with
 | false =>
  have HE := hid (show knownI ts x l m = false by unfold knownI; rw [hh]; rfl)
  rw [HE.out]
  rw [hh] at C
  clear hh HE hR hz
  generalize ts.length = n at *
  go_enter Tryz.func111, Tryz.ntmps111
  go_wp2_with fail
  refine C.out.mono ?_
  rintro e w1 ⟨rfl, hb1⟩
  have HB1 := hid hb1
  clear hb1 C
  go_wp2_with fail
  go_ret
  exact ⟨rfl, HB1.out⟩
 | true =>
  obtain ⟨hT, k, rfl, hk⟩ := elemB_t hh
  have HE := hid (show knownI ts (k : Int) l m = knownN ts k l m by unfold knownI; rw [hh]; rfl)
  rw [HE.out]
  rw [hh] at C
  have hzn := name_sz hz hk
  have CP := hid (fun wx => cPartsI (nameI ts k) wx hzn)
  have CM := hid (fun wx (hb : Below w.heap.size w wx) => cMeaningI a cap ts (k : Int) (preS (nameI ts k)) wx (hR.below hb) hn hz (preS_sz hzn))
  rw [meanI_el hh] at CM
  have HROW := hid (fun wx (hb : Below w.heap.size w wx) => name_row (hR.below hb) hk)
  obtain ⟨b, o, ea, -⟩ := name_row hR hk
  subst ea
  have h1 := str_beq (locS (nameI ts k)) l
  have h2 := str_beq ((meanF ts k (preS (nameI ts k))).getD ⟨#[]⟩) m
  have hkn : (k : Int) < (ts.length : Int) := by omega
  unfold knownN
  generalize (meanF ts k (preS (nameI ts k))).isSome = I at *
  generalize (meanF ts k (preS (nameI ts k))).getD ⟨#[]⟩ = G at *
  generalize preS (nameI ts k) = P at *
  generalize locS (nameI ts k) = L at *
  generalize nameI ts k = N at *
  clear hh HE hR hz hT hk hzn
  generalize ts.length = n at *
  obtain ⟨B1, hB1⟩ : ∃ B : Bool, decide (L = l) = B := ⟨_, rfl⟩
  obtain ⟨B2, hB2⟩ : ∃ B : Bool, decide (G = m) = B := ⟨_, rfl⟩
  rw [hB1] at h1
  rw [hB2] at h2
  have HQ := hid (And.intro hB1 hB2)
  clear hB1 hB2
  go_enter Tryz.func111, Tryz.ntmps111
  go_wp2_with fail
  refine C.out.mono ?_
  rintro e w1 ⟨rfl, hb1⟩
  obtain ⟨b', o', e', c1⟩ := HROW.out _ hb1
  obtain ⟨rfl, rfl⟩ : b = b' /\ o = o' := by cases e'; exact ⟨rfl, rfl⟩
  have HB1 := hid hb1
  clear hb1 C e' HROW
  go_wp2_with fail
  refine (CP.out _).mono ?_
  rintro e w2 ⟨rfl, hb2⟩
  have HB2 := hid (bb HB1.out hb2)
  have CM2 := hid (CM.out _ HB2.out)
  clear hb2 CP CM c1
  go_wp2_with fail
  refine CM2.out.mono ?_
  rintro e w3 ⟨rfl, hb3⟩
  have HB3 := hid (bb HB2.out hb3)
  clear hb3 CM2
  cases I
  ·go_wp2_with fail
   go_ret
   exact ⟨by simp, HB3.out⟩
  ·cases B1
   ·go_wp2_with fail
    go_ret
    exact ⟨by simp [HQ.out.1], HB3.out⟩
   ·go_wp2_with fail
    go_ret
    exact ⟨by simp [HQ.out.1, HQ.out.2], HB3.out⟩

end Go.Proofs.YtoioiddjbanahaaGreatDoor

namespace Go.Proofs.YtoioiddjbanahaaGreatDoor

open Go.RowKit

end Go.Proofs.YtoioiddjbanahaaGreatDoor
