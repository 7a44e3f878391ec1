/- The prefixes that are needed: contract of neededPrefixes. -/
import Derived.Test.YtoioiddjbanahaaGreatDoorM35
import Derived.Test.YtoioiddjbanahaaGreatDoorM36
import Derived.Test.YtoioiddjbanahaaGreatDoorM15
import Derived.Test.YtoioiddjbanahaaGreatDoorM20
import Derived.Test.YtoioiddjbanahaaGreatDoorM26
import Derived.Test.YtoioiddjbanahaaGreatDoorM19
import Derived.Test.YtoioiddjbanahaaGreatDoorM1
import Derived.Deep.RegionHeld3
set_option linter.unusedVariables false
set_option linter.unusedSimpArgs false
namespace Go.Proofs.YtoioiddjbanahaaGreatDoor

open Go.RowKit Go.Sort

set_option linter.unusedVariables false

set_option linter.unusedSimpArgs false

theorem below_put {w wx : World} {g n : Nat} {d : Array BL} (h : Below w.heap.size w wx) (hg : w.heap.size <= g) : Below w.heap.size w (putRow encStr (Sort.ahead wx n) g 0 d) := by
 refine ⟨h.os, h.tape, h.output, by rw [size_putRow]; exact h.size, fun k hk => ?_⟩
 rw [<- h.block k hk]
 unfold putRow mapBlock
 show (Array.modify _ _ _)[k]? = _
 rw [Array.getElem?_modify]
 have : ¬ g = k := by omega
 rw [if_neg this]
 rfl

theorem below_grow {w wx : World} {os : Array Obj} (h : Below w.heap.size w wx) : Below w.heap.size w (grow wx os) :=
 ⟨h.os, h.tape, h.output, by rw [size_grow]; exact Nat.le_trans h.size (Nat.le_add_right _ _), fun k hk => by
  rw [heap_grow_old wx os (Nat.lt_of_lt_of_le hk h.size)]
  exact h.block k hk⟩

noncomputable def rawP (nm : ByteArray) (os : List At) : List ByteArray := [preS nm] ++ (os.filter fun x => !decide ((preS x.name).size = 0)).map fun x => preS x.name

theorem rawP_next (nm : ByteArray) {os : List At} {i : Nat} (h : i < os.length) : rawP nm (os.take (i + 1)) = rawP nm (os.take i) ++ (if (preS os[i].name).size = 0 then [] else [preS os[i].name]) := by
 unfold rawP
 rw [take_snocN h, List.filter_append, List.map_append, List.append_assoc]
 congr 2
 by_cases hq : (preS os[i].name).size = 0
 ·rw [if_pos hq, List.filter_cons, if_neg (by rw [decide_eq_true hq]; decide)]
  rfl
 ·rw [if_neg hq, List.filter_cons, if_pos (by rw [decide_eq_false hq]; rfl)]
  rfl

theorem compact_len (M : List BL) : (Lib.compact M).length <= M.length := by
 unfold Lib.compact Lib.compactUpTo
 rw [List.length_map]
 exact Nat.le_trans (List.length_filter_le _ _) (by rw [List.length_range]; exact Nat.le_refl _)

noncomputable def needL (nm : ByteArray) (os : List At) : List ByteArray := (Lib.compact (((rawP nm os).map ByteArray.toList).mergeSort fun x y => decide (x <= y))).map mkB

theorem strs_more {w1 : World} {B : Nat} {v : Value} {ps : List ByteArray} {q : ByteArray} (h : w1.ownsRow B 9 1 v (ps.length + 1) (keyV ps ++ [.string q])) : ∃ g c, v = .slice (some ⟨g, 0, none⟩) (ps ++ [q]).length c /\ B <= g /\ w1.ownsRow B 9 1 (.slice (some ⟨g, 0, none⟩) (ps ++ [q]).length c) (ps ++ [q]).length (keyV (ps ++ [q])) := by
 have e : keyV ps ++ [.string q] = keyV (ps ++ [q]) := by simp [keyV]
 have e2 : (ps ++ [q]).length = ps.length + 1 := by simp
 rw [e] at h
 rw [e2]
 rcases h.2 with ⟨_, h0⟩ | ⟨g, c, cu, hv, hr⟩
 ·omega
 ·exact ⟨g, c, hv, hr.1, by rw [<- hv]; exact h⟩

theorem own_one (w : World) (B : Nat) (p : ByteArray) (hB : B <= w.heap.size) : (w.alloc (.cells #[.string p] 9)).ownsRow B 9 1 (.slice (some ⟨w.heap.size, 0, none⟩) [p].length 1) [p].length (keyV [p]) :=
 ⟨rfl, .inr ⟨w.heap.size, 1, #[.string p], rfl, hB, heap_alloc_new w _, Nat.le_refl _, by decide, rfl, rfl⟩⟩

theorem own_holds {w1 : World} {B g c : Nat} {ps : List ByteArray} (h : w1.ownsRow B 9 1 (.slice (some ⟨g, 0, none⟩) ps.length c) ps.length (keyV ps)) : Holds encStr w1 g 0 (ps.map ByteArray.toList).toArray /\ g < w1.heap.size /\ ps.length <= c := by
 rcases h.2 with ⟨h0, _⟩ | ⟨g', c', cu, hv, h1, h2, h3, h4, h5, h6⟩
 ·cases h0
 ·injection hv with e1 e2 e3
  injection e1 with e1
  injection e1 with e1
  subst e1 e3
  refine ⟨fun j hj => ?_, lt_of_heap h2, h3⟩
  have hj' : j < ps.length := by simpa using hj
  refine ⟨?_, Lib.frozen_of_heap h2 _⟩
  have hl : j < ps.length * 1 := by omega
  have := World.ownsRow.cellAt h j hl
  rw [Nat.zero_add, this]
  simp only [keyV, List.getElem?_map, List.getElem?_eq_getElem hj', Option.map_some]
  have e : (ps.map ByteArray.toList).toArray[j]! = ps[j].toList := by simp [hj']
  rw [e]
  show some (Value.string ps[j]) = some (.string (mkB ps[j].toList))
  rw [mkB_eta]

theorem holds_cells {w : World} {g : Nat} {K : List BL} {R : List BL} (h : Holds encStr w g 0 (K ++ R).toArray) : CellsAt w g 0 (keyV (K.map mkB)) := by
 intro j u hj
 have hj' : j < K.length := by
  have := (List.getElem?_eq_some_iff.1 hj).1
  simpa [keyV] using this
 have h1 := (h j (by simp; omega)).1
 rw [h1]
 have e : (K ++ R).toArray[j]! = K[j] := by
  have hlt : j < (K ++ R).length := by rw [List.length_append]; omega
  rw [getElem!_pos _ j (by simpa using hlt)]
  simp [List.getElem_append_left hj']
 rw [e]
 simp only [keyV, List.map_map, List.getElem?_map, List.getElem?_eq_getElem hj', Option.map_some] at hj
 exact hj

set_option maxRecDepth 8000 in
set_option maxHeartbeats 4000000 in
theorem cNeeded (nm : ByteArray) (aa : Option Addr) (ca : Nat) (os : List At) (w : World) (hR : AtRow w aa os) (hz : AtSz 1048576 os) (hn : os.length <= 6) (hm : nm.size <= 1048576) :
  Calls Tryz.prog 164 #[.string nm, .slice aa os.length ca] w fun e w' => ∃ v, e = .returned v /\ Rd w' 1 v (needL nm os).length (keyV (needL nm os)) /\ Below w.heap.size w w' := by
 obtain ⟨i0, hi, hz0, hz1, hz2⟩ := info_parts infoS
 have HI := hid (And.intro hi (And.intro hz0 (And.intro hz1 hz2)))
 clear hi hz0 hz1 hz2
 obtain ⟨S, hS⟩ : ∃ S, needL nm os = S := ⟨_, rfl⟩
 rw [hS]
 have HSS := hid hS
 have CP := hid (fun wx => cPartsI nm wx hm)
 have HR := hid hR
 have HZ := hid hz
 have HP0 := hid (show rawP nm (os.take 0) = [preS nm] from rfl)
 clear hS hR hz hm
 obtain ⟨n, hnn⟩ : ∃ n, os.length = n := ⟨_, rfl⟩
 have HN := hid hnn
 rw [hnn] at hn ⊢
 clear hnn
 generalize preS nm = P0 at *
 generalize locS nm = L0 at *
 go_enter Tryz.func164, Tryz.ntmps164
 go_wp2_with fail
 refine (CP.out _).mono ?_
 rintro e w1 ⟨rfl, hb1⟩
 have HB1 := hid (hb1.alloc hb1.size (.cells #[.string P0] 9))
 have HO1 := hid (own_one w1 w.heap.size P0 hb1.size)
 have HG1 := hid hb1.size
 clear hb1 CP
 go_wp2_with fail
 go_loopw [7, 21] (fun v7 v21 wr => ∃ (j g c : Nat) (ps : List ByteArray), v21 = .int .i64 (j : Int) /\ j <= n /\ v7 = .slice (some ⟨g, 0, none⟩) ps.length c /\ ps.length <= j + 1 /\ Hid (ps = rawP nm (os.take j)) /\ Hid (w.heap.size <= g) /\ Hid (wr.ownsRow w.heap.size 9 1 (.slice (some ⟨g, 0, none⟩) ps.length c) ps.length (keyV ps)) /\ Hid (Below w.heap.size w wr)) (fun _ v21 _ => n - (intOf v21).toNat)
 case atStart => exact ⟨0, w1.heap.size, 1, [P0], rfl, Nat.zero_le _, rfl, by simp, HP0.out.symm, HG1.out, HO1.out, HB1.out⟩
 case round =>
  clear HB1 HO1 HG1
  obtain ⟨j, g, c, ps, rfl, hj, rfl, hps, HK, HG, HOW, HB⟩ := hrel
  by_cases hjl : j < n
  ·have hjt : j < os.length := by rw [HN.out]; exact hjl
   have hjn : (j : Int) < (n : Int) := by omega
   obtain ⟨b, o, rfl, hb, c1, c2⟩ := (HR.out.below HB.out) j hjt
   have HS := hid (HZ.out _ (List.getElem_mem hjt))
   have HTS := hid (rawP_next nm hjt)
   obtain ⟨y, hy⟩ : ∃ y, os[j] = y := ⟨_, rfl⟩
   rw [hy] at c1 c2 HS HTS
   clear hy
   rw [<- HK.out] at HTS
   have CP := hid (fun wx => cPartsI y.name wx HS.out.1)
   have EP := empty_is (preS y.name)
   generalize preS y.name = Q at *
   generalize locS y.name = L at *
   have HBX := hid (HB.out.alloc HB.out.size (.cells #[.string y.name, .string y.value] 67))
   have HO1 := hid (HOW.out.alloc (.cells #[.string y.name, .string y.value] 67))
   obtain ⟨nk, hnk⟩ : ∃ nk, ps.length = nk := ⟨_, rfl⟩
   have HNK := hid hnk
   rw [hnk] at hps HO1 ⊢
   clear hnk HOW
   go_wp2_with fail
   refine (CP.out _).mono ?_
   rintro e w2 ⟨rfl, hb2⟩
   have HB2 := hid (bb HBX.out hb2)
   have HO2 := hid (ownsRow_below HO1.out hb2)
   clear hb2 HBX CP c1 c2 HO1 hb HB
   by_cases hq : Q.size = 0
   ·rw [decide_eq_true hq] at EP
    have HE := hid (show ps = rawP nm (os.take (j + 1)) by rw [HTS.out, if_pos hq, List.append_nil])
    have EP2 : (!Q.toList.isEmpty) = false := by rw [EP]; rfl
    clear hq
    go_wp2_with fail
    go_roundw
    case rel => exact ⟨j + 1, g, c, ps, by go_num, by omega, by rw [HNK.out], by rw [HNK.out]; omega, HE.out, HG.out, by rw [HNK.out]; exact HO2.out, HB2.out⟩
    case measure => simp [intOf]; omega
   ·rw [decide_eq_false hq] at EP
    have HE := hid (show ps ++ [Q] = rawP nm (os.take (j + 1)) by rw [HTS.out, if_neg hq])
    have EP2 : (!Q.toList.isEmpty) = true := by rw [EP]; rfl
    have hsz := HB2.out.size
    clear hq
    go_wp2_with (at_builtin; refine wpList_append_own _ rfl _ _ 38 rfl w.heap.size 9 i0 _ 1 16 Tryz.underlying38 HI.out.1 HI.out.2.1 HI.out.2.2.1 HI.out.2.2.2 rfl (by decide) _ _ _ rfl (HO2.out.alloc _) ⟨w2.heap.size, 0, none⟩ 1 1 [.string Q] rfl rfl (one_cell _ _ _) (one_str _) (by unfold maxLen; omega) (by omega) (by simp; omega) ?_)
    intro v' w7 hown' hgrow _
    have HB7 := hid ((HB2.out.alloc hsz _).grown hgrow (by simp; omega) (fun k hk => (HO2.out.lt k hk).1))
    rw [<- HNK.out] at hown'
    obtain ⟨g9, c9, rfl, hg9, ho9⟩ := strs_more (q := Q) hown'
    have HO9 := hid ho9
    have HG9 := hid hg9
    clear hown' hgrow ho9 hg9
    have HL9 := hid (show (ps ++ [Q]).length <= j + 1 + 1 by rw [List.length_append, HNK.out]; show _ + 1 <= _; omega)
    generalize ps ++ [Q] = ps9 at *
    go_wp2_with fail
    go_roundw
    case rel => exact ⟨j + 1, g9, c9, ps9, by go_num, by omega, rfl, HL9.out, HE.out, HG9.out, HO9.out, HB7.out⟩
    case measure => simp [intOf]; omega
  ·have hjn : j = n := by omega
   subst hjn
   have HE := hid (show ps = rawP nm os by
    have h := HK.out
    rw [List.take_of_length_le (by rw [HN.out]; omega)] at h
    exact h)
   obtain ⟨h1, h2, h3⟩ := own_holds HOW.out
   have CS := hid (Tryz.slices_Sort_string g 0 c (ps.map ByteArray.toList) wr h1 h2 (by rw [List.length_map]; omega))
   obtain ⟨M, hM⟩ : ∃ M, (ps.map ByteArray.toList).mergeSort (fun x y => decide (x <= y)) = M := ⟨_, rfl⟩
   have HML := hid (show M.length = ps.length by rw [<- hM, List.length_mergeSort, List.length_map])
   have HH := hid h1
   have HLT := hid h2
   rw [hM, List.length_map] at CS
   have HM := hid hM
   have HCL := hid h3
   have HSZ := hid (show ps.length <= 9223372036854775807 by omega)
   obtain ⟨nk, hnk⟩ : ∃ nk, ps.length = nk := ⟨_, rfl⟩
   have HNK := hid hnk
   rw [hnk] at CS HML HCL HSZ ⊢
   clear hnk h1 h2 h3 hM HOW
   go_wp2_with fail
   refine CS.out.mono ?_
   rintro e w2 ⟨rfl, q, oo, hw2⟩
   have HB2 := hid (show Below w.heap.size w w2 by rw [hw2]; exact below_grow (below_put HB.out HG.out))
   have HH2 := hid (show Holds encStr w2 g 0 M.toArray by
    rw [hw2]
    exact holds_grow _ _ _ _ _ _ (by rw [size_putRow]; exact HLT.out) (holds_putRow _ _ _ _ (ps.map ByteArray.toList).toArray _ (holds_ahead _ _ _ _ _ _ HH.out) (by simp [HML.out, HNK.out])))
   have HL2 := hid (show g < w2.heap.size from Nat.lt_of_lt_of_le HLT.out (by rw [hw2, size_grow, size_putRow]; exact Nat.le_add_right _ _))
   have CC := hid (Tryz.slices_Compact_string g 0 c M w2 HH2.out (by rw [HML.out]; exact HSZ.out) (by rw [HML.out]; exact HCL.out))
   rw [HML.out] at CC
   clear hw2 CS HB
   go_wp2_with fail
   refine CC.out.mono ?_
   rintro e w3 ⟨rfl, q3, hw3⟩
   have HB3 := hid (show Below w.heap.size w w3 by rw [hw3]; exact below_put HB2.out HG.out)
   have HKL := hid (show (Lib.compact M).length <= nk by
    have := compact_len M
    rw [HML.out] at this
    exact this)
   have HH3 := hid (show Holds encStr w3 g 0 (Lib.compact M ++ List.replicate (nk - (Lib.compact M).length) []).toArray by
    rw [hw3]
    refine holds_putRow _ _ _ _ M.toArray _ (holds_ahead _ _ _ _ _ _ HH2.out) ?_
    have := HKL.out
    simp [HML.out]
    omega)
   have HSK := hid (show S = (Lib.compact M).map mkB by rw [<- HSS.out]; unfold needL; rw [<- HE.out, HM.out])
   have HRD := hid (show Rd w3 1 (.slice (some ⟨g, 0, none⟩) S.length c) S.length (keyV S) from by
    refine ⟨⟨g, 0, c, rfl, ?_, ?_, ?_⟩, ?_⟩
    ·exact Nat.lt_of_lt_of_le HL2.out (by rw [hw3, size_putRow]; exact Nat.le_refl _)
    ·rw [HSK.out, List.length_map]; exact Nat.le_trans HKL.out HCL.out
    ·rw [HSK.out]; exact holds_cells HH3.out
    ·simp [keyV])
   have HSL := hid (show (Lib.compact M).length = S.length by rw [HSK.out, List.length_map])
   rw [HSL.out]
   clear hw3 CC HH3
   go_wp2_with fail
   go_ret
   exact ⟨_, rfl, HRD.out, HB3.out⟩

end Go.Proofs.YtoioiddjbanahaaGreatDoor

namespace Go.Proofs.YtoioiddjbanahaaGreatDoor

open Go.RowKit

theorem c_itself_58 (w : World) : Calls Tryz.prog 122 #[.int .u8 58] w fun e w' => e = .returned (.string ⟨#[58]⟩) /\ Below w.heap.size w w' := c__impl_sign__itself 58 w

set_option maxHeartbeats 2000000 in
theorem cDeclaration (p m : ByteArray) (w : World) (hp : p.size <= 1048576) :
  Calls Tryz.prog 194 #[.string p, .string m] w fun e w' => e = .returned (.agg #[.string (nmD p), .string m]) /\ Below w.heap.size w w' := by
 have HB0 := hid ((Below.refl w.heap.size w).alloc (Nat.le_refl _) (.cells #[.string ⟨#[]⟩, .string ⟨#[]⟩] 67))
 have M1 := hid (heap_alloc_new w (.cells #[.string ⟨#[]⟩, .string ⟨#[]⟩] 67))
 have E := empty_is p
 have C := hid c_itself_58
 by_cases hq : p.size = 0
 ·have HV := hid (show nmD p = ⟨#[110, 115]⟩ by unfold nmD; rw [if_pos hq])
  rw [HV.out]
  rw [decide_eq_true hq] at E
  clear HV hq hp C
  obtain ⟨⟨y0, y1⟩, f0, f1⟩ := box2e M1.out
  go_enter Tryz.func194, Tryz.ntmps194
  go_wp2_with fail
  refine bodyPost_ret (v := .agg #[.string ⟨#[110, 115]⟩, .string m]) (by simp [results, Tryz.results194, go_sem, y0, y1]) rfl ⟨rfl, ?_⟩
  first
   | exact HB0.out
   | exact (Below.refl w.heap.size w).alloc (Nat.le_refl _) _
 ·have HV := hid (show nmD p = (⟨#[110, 115, 58]⟩ : ByteArray) ++ p by unfold nmD; rw [if_neg hq])
  obtain ⟨N, hN⟩ : ∃ N, (⟨#[110, 115, 58]⟩ : ByteArray) ++ p = N := ⟨_, rfl⟩
  have HN := hid hN
  rw [HV.out, hN]
  rw [decide_eq_false hq] at E
  have e1 : (⟨#[110, 115]⟩ : ByteArray) ++ ⟨#[58]⟩ = ⟨#[110, 115, 58]⟩ := rfl
  have z1 : (⟨#[110, 115]⟩ : ByteArray).size + (⟨#[58]⟩ : ByteArray).size <= 9223372036854775807 := by decide
  have z2 : (⟨#[110, 115, 58]⟩ : ByteArray).size + p.size <= 9223372036854775807 := by
   have : (⟨#[110, 115, 58]⟩ : ByteArray).size = 3 := rfl
   omega
  clear HV hq
  go_enter Tryz.func194, Tryz.ntmps194
  go_wp2_with fail
  refine (C.out _).mono ?_
  rintro e w1 ⟨rfl, hb1⟩
  have HB1 := hid (bb HB0.out hb1)
  obtain ⟨⟨y0, y1⟩, f0, f1⟩ := box2e (blk_below M1.out hb1)
  clear hb1
  go_wp2_with fail
  refine bodyPost_ret (v := .agg #[.string N, .string m]) (by simp [results, Tryz.results194, go_sem, y0, y1]) rfl ⟨rfl, ?_⟩
  iterate 2 refine Below.setCell ?_ (show w.heap.size <= w.heap.size from Nat.le_refl _) _
  exact HB1.out

noncomputable def needB (ls l2 : List At) (p : ByteArray) : Bool := open Classical in !(lookL l2 p).isSome || !decide ((lookL l2 p).getD ⟨#[]⟩ = (lookL ls p).getD ⟨#[]⟩)

noncomputable def dclP (ls l2 : List At) (ps : List ByteArray) : List At := (ps.filter (needB ls l2)).map fun p => ⟨nmD p, (lookL ls p).getD ⟨#[]⟩⟩

theorem dclP_next (ls l2 : List At) {ps : List ByteArray} {i : Nat} (h : i < ps.length) : dclP ls l2 (ps.take (i + 1)) = dclP ls l2 (ps.take i) ++ (if needB ls l2 ps[i] then [⟨nmD ps[i], (lookL ls ps[i]).getD ⟨#[]⟩⟩] else []) := by
 unfold dclP
 rw [take_snocN h, List.filter_append, List.map_append]
 congr 1
 cases hq : needB ls l2 ps[i] <;> simp [hq]

set_option maxRecDepth 8000 in
set_option maxHeartbeats 4000000 in
theorem cNewDecl (v : Value) (ps : List ByteArray) (F F2 : FuncId) (C C2 : Array Value) (ls l2 : List At) (w : World) (hR : Rd w 1 v ps.length (keyV ps)) (hA : Asks F C w ls) (hA2 : Asks F2 C2 w l2) (hz : ∀ p ∈ ps, p.size <= 1048576) (hn : ps.length <= 12) :
  Calls Tryz.prog 163 #[v, .func (.func F) #[] C, .func (.func F2) #[] C2] w fun e w' => ∃ a c, e = .returned (.slice a (dclP ls l2 ps).length c) /\ NewAts w' w.heap.size a c (dclP ls l2 ps) /\ Below w.heap.size w w' := by
 obtain ⟨gb, go, gc, rfl, hgb, hgc, _⟩ := hR.at_
 obtain ⟨i0, hi, hz0, hz1, hz2⟩ := info_parts infoAtW
 have HI := hid (And.intro hi (And.intro hz0 (And.intro hz1 hz2)))
 clear hi hz0 hz1 hz2
 obtain ⟨S, hS⟩ : ∃ S, dclP ls l2 ps = S := ⟨_, rfl⟩
 rw [hS]
 have HSS := hid hS
 clear hS
 have HR := hid hR
 have HA := hid hA
 have HA2 := hid hA2
 have HZ := hid hz
 clear hR hA hA2 hz hgb
 obtain ⟨n, hnn⟩ : ∃ n, ps.length = n := ⟨_, rfl⟩
 have HN := hid hnn
 rw [hnn] at hn hgc HR ⊢
 clear hnn
 go_enter Tryz.func163, Tryz.ntmps163
 go_wp2_with fail
 go_loopw [7, 16] (fun v7 v16 wr => ∃ (j : Nat) (a8 : Option Addr) (c8 : Nat) (ds : List At), v16 = .int .i64 (j : Int) /\ j <= n /\ v7 = .slice a8 ds.length c8 /\ ds.length <= j /\ Hid (ds = dclP ls l2 (ps.take j)) /\ Hid (wr.ownsRow w.heap.size 67 2 (.slice a8 ds.length c8) ds.length (atC ds)) /\ Hid (Below w.heap.size w wr)) (fun _ v16 _ => n - (intOf v16).toNat)
 case atStart => exact ⟨0, none, 0, [], rfl, Nat.zero_le _, rfl, Nat.zero_le _, rfl, World.ownsRow_nil _ _ _ _, Below.refl _ _⟩
 case round =>
  obtain ⟨j, a8, c8, ds, rfl, hj, rfl, hds, HK, HOW, HB⟩ := hrel
  by_cases hjl : j < n
  ·have hjt : j < ps.length := by rw [HN.out]; exact hjl
   have hjn : (j : Int) < (n : Int) := by omega
   obtain ⟨b', o', c', e', hb', _, hcell⟩ := (HR.out.below HB.out).key hjt
   obtain ⟨rfl, rfl⟩ : gb = b' /\ go = o' := by cases e'; exact ⟨rfl, rfl⟩
   have HS := hid (HZ.out _ (List.getElem_mem hjt))
   have HTS := hid (dclP_next ls l2 hjt)
   obtain ⟨p, hp⟩ : ∃ p, ps[j] = p := ⟨_, rfl⟩
   rw [hp] at hcell HS HTS
   rw [<- HK.out] at HTS
   clear hp e'
   have he := HA.out.1 p
   have he2 := HA2.out.1 p
   have CM := hid (fun wx (hb : Below w.heap.size w wx) => HA.out.2 p wx hb HS.out)
   have CS := hid (fun wx (hb : Below w.heap.size w wx) => HA2.out.2 p wx hb HS.out)
   have CD := hid (fun m wx => cDeclaration p m wx HS.out)
   have HNB := hid (show needB ls l2 p = (!(lookL l2 p).isSome || !(((lookL l2 p).getD ⟨#[]⟩).toList == ((lookL ls p).getD ⟨#[]⟩).toList)) by unfold needB; rw [str_beq])
   generalize (lookL ls p).getD ⟨#[]⟩ = M at *
   generalize (lookL ls p).isSome = I at *
   generalize (lookL l2 p).getD ⟨#[]⟩ = M2 at *
   generalize (lookL l2 p).isSome = I2 at *
   generalize nmD p = ND at *
   obtain ⟨nk, hnk⟩ : ∃ nk, ds.length = nk := ⟨_, rfl⟩
   have HNK := hid hnk
   have HO1 := hid HOW.out
   rw [hnk] at hds HO1 ⊢
   clear hnk HOW
   go_wp2_with fail
   refine (CM.out _ HB.out).mono ?_
   rintro e w1 ⟨rfl, hb1⟩
   have HB1 := hid (bb HB.out hb1)
   have HO2 := hid (ownsRow_below HO1.out hb1)
   clear hb1 CM HO1 HB hcell he
   go_wp2_with fail
   refine (CS.out _ HB1.out).mono ?_
   rintro e w2 ⟨rfl, hb2⟩
   have HB2 := hid (bb HB1.out hb2)
   have HO3 := hid (ownsRow_below HO2.out hb2)
   clear hb2 CS HO2 HB1 he2
   obtain ⟨Q, hQ⟩ : ∃ Q, (M2.toList == M.toList) = Q := ⟨_, rfl⟩
   have hQ2 : (M2.toList != M.toList) = !Q := by unfold bne; rw [hQ]
   rw [hQ] at HNB
   cases I2 with
   | false =>
    have HE := hid (show ds ++ [⟨ND, M⟩] = dclP ls l2 (ps.take (j + 1)) by rw [HTS.out, HNB.out]; rfl)
    go_wp2_with fail
    refine (CD.out _ _).mono ?_
    rintro e w3 ⟨rfl, hb3⟩
    have HB3 := hid (bb HB2.out hb3)
    have HO4 := hid (ownsRow_below HO3.out hb3)
    clear hb3 HO3 HB2
    have hsz := HB3.out.size
    go_wp2_with (at_builtin; refine wpList_append_own _ rfl _ _ 30 rfl w.heap.size 67 i0 (.agg #[.string ⟨#[]⟩, .string ⟨#[]⟩]) 2 32 Tryz.underlying30 HI.out.1 HI.out.2.1 HI.out.2.2.1 HI.out.2.2.2 rfl (by decide) _ _ _ rfl (HO4.out.alloc _) ⟨w3.heap.size, 0, none⟩ 1 1 [.string ND, .string M] rfl rfl (two_cell _ _ _ _) (two_str _ _) (by unfold maxLen; omega) (by omega) (by simp; omega) ?_)
    intro v' w7 hown' hgrow _
    have HB7 := hid ((HB3.out.alloc hsz _).grown hgrow (by simp; omega) (fun k hk => (HO4.out.lt k hk).1))
    rw [<- HNK.out] at hown'
    obtain ⟨a9, c9, rfl, ho9⟩ := ats_more (q := ⟨ND, M⟩) hown'
    have HO9 := hid ho9
    clear hown' hgrow ho9
    have HL9 := hid (show (ds ++ [(⟨ND, M⟩ : At)]).length <= j + 1 by rw [List.length_append, HNK.out]; show _ + 1 <= _; omega)
    generalize ds ++ [(⟨ND, M⟩ : At)] = ds9 at *
    go_wp2_with fail
    go_roundw
    case rel => exact ⟨j + 1, a9, c9, ds9, by go_num, by omega, rfl, HL9.out, HE.out, HO9.out, HB7.out⟩
    case measure => simp [intOf]; omega
   | true =>
    cases Q with
    | false =>
     have HE := hid (show ds ++ [⟨ND, M⟩] = dclP ls l2 (ps.take (j + 1)) by rw [HTS.out, HNB.out]; rfl)
     go_wp2_with fail
     refine (CD.out _ _).mono ?_
     rintro e w3 ⟨rfl, hb3⟩
     have HB3 := hid (bb HB2.out hb3)
     have HO4 := hid (ownsRow_below HO3.out hb3)
     clear hb3 HO3 HB2
     have hsz := HB3.out.size
     go_wp2_with (at_builtin; refine wpList_append_own _ rfl _ _ 30 rfl w.heap.size 67 i0 (.agg #[.string ⟨#[]⟩, .string ⟨#[]⟩]) 2 32 Tryz.underlying30 HI.out.1 HI.out.2.1 HI.out.2.2.1 HI.out.2.2.2 rfl (by decide) _ _ _ rfl (HO4.out.alloc _) ⟨w3.heap.size, 0, none⟩ 1 1 [.string ND, .string M] rfl rfl (two_cell _ _ _ _) (two_str _ _) (by unfold maxLen; omega) (by omega) (by simp; omega) ?_)
     intro v' w7 hown' hgrow _
     have HB7 := hid ((HB3.out.alloc hsz _).grown hgrow (by simp; omega) (fun k hk => (HO4.out.lt k hk).1))
     rw [<- HNK.out] at hown'
     obtain ⟨a9, c9, rfl, ho9⟩ := ats_more (q := ⟨ND, M⟩) hown'
     have HO9 := hid ho9
     clear hown' hgrow ho9
     have HL9 := hid (show (ds ++ [(⟨ND, M⟩ : At)]).length <= j + 1 by rw [List.length_append, HNK.out]; show _ + 1 <= _; omega)
     generalize ds ++ [(⟨ND, M⟩ : At)] = ds9 at *
     go_wp2_with fail
     go_roundw
     case rel => exact ⟨j + 1, a9, c9, ds9, by go_num, by omega, rfl, HL9.out, HE.out, HO9.out, HB7.out⟩
     case measure => simp [intOf]; omega
    | true =>
     have HE := hid (show ds = dclP ls l2 (ps.take (j + 1)) by rw [HTS.out, HNB.out]; simp)
     go_wp2_with fail
     go_roundw
     case rel => exact ⟨j + 1, a8, c8, ds, by go_num, by omega, by rw [HNK.out], by rw [HNK.out]; omega, HE.out, by rw [HNK.out]; exact HO3.out, HB2.out⟩
     case measure => simp [intOf]; omega
  ·have hjn : j = n := by omega
   subst hjn
   have HE := hid (show ds = S by
    have h := HK.out
    rw [List.take_of_length_le (by rw [HN.out]; omega), HSS.out] at h
    exact h)
   have HNA := hid (NewAts.of HOW.out)
   rw [HE.out] at HNA
   have HLN := hid (show ds.length = S.length by rw [HE.out])
   generalize ds.length = nk at *
   go_wp2_with fail
   go_ret
   exact ⟨a8, c8, by rw [<- HLN.out]; rfl, HNA.out, HB.out⟩

end Go.Proofs.YtoioiddjbanahaaGreatDoor

namespace Go.Proofs.YtoioiddjbanahaaGreatDoor

open Go.RowKit

theorem strCells_app (a b : ByteArray) : Lib.strCells a ++ Lib.strCells b = Lib.strCells (a ++ b) := by
 simp [Lib.strCells]

theorem of_size {a b c : ByteArray} (h : a ++ b = c) : c.size = a.size + b.size := by rw [<- h, ByteArray.size_append]

theorem str_eta (s : ByteArray) : (⟨s.data.toList.toArray⟩ : ByteArray) = s := by
 apply ByteArray.ext
 simp

theorem atS_assoc (x y : ByteArray) : ((((((⟨#[32]⟩ : ByteArray) ++ x) ++ ⟨#[61]⟩) ++ ⟨#[34]⟩) ++ y) ++ ⟨#[34]⟩) = (((((⟨#[32]⟩ : ByteArray) ++ x) ++ ⟨#[61, 34]⟩) ++ y) ++ ⟨#[34]⟩) := by
 have e : (⟨#[61, 34]⟩ : ByteArray) = ⟨#[61]⟩ ++ ⟨#[34]⟩ := rfl
 rw [e]
 simp only [ByteArray.append_assoc]

theorem pair_kept {w0 w w2 : World} {g b : Nat} {x y : Value} {T e : TypeId} (M : w0.heap[g]? = some (.cells #[x, y] T (0, 0))) (hb : Below w0.heap.size w0 w) (hk : Lib.OthersKept e (some b) w w2) (hg : ¬ g = b) (hT : ¬ T = e) :
  w2.cell? ⟨g, 0, none⟩ = some x /\ w2.cell? ⟨g, 1, none⟩ = some y :=
 box2c (hk g _ ((hb.block g (lt_of_heap M)).trans M) (by simpa using hg) (fun c fz h => by injection h with _ h2 _; exact hT h2))

theorem c_itself_32 (w : World) : Calls Tryz.prog 122 #[.int .u8 32] w fun e w' => e = .returned (.string ⟨#[32]⟩) /\ Below w.heap.size w w' := c__impl_sign__itself 32 w

theorem c_itself_61 (w : World) : Calls Tryz.prog 122 #[.int .u8 61] w fun e w' => e = .returned (.string ⟨#[61]⟩) /\ Below w.heap.size w w' := c__impl_sign__itself 61 w

theorem c_itself_34 (w : World) : Calls Tryz.prog 122 #[.int .u8 34] w fun e w' => e = .returned (.string ⟨#[34]⟩) /\ Below w.heap.size w w' := c__impl_sign__itself 34 w

theorem atsS_app (l : List At) (s : ByteArray) : atsS l s = s ++ atsS l ⟨#[]⟩ := by
 have H : ∀ (l : List At) (s t : ByteArray), atsS l (s ++ t) = s ++ atsS l t := by
  intro l
  induction l with
  | nil => intro s t; rfl
  | cons x l ih => intro s t; show atsS l ((s ++ t) ++ atS x) = s ++ atsS l (t ++ atS x); rw [ByteArray.append_assoc, ih]
 have e := H l s ⟨#[]⟩
 rwa [show s ++ (⟨#[]⟩ : ByteArray) = s from by apply ByteArray.ext; simp] at e

end Go.Proofs.YtoioiddjbanahaaGreatDoor

namespace Go.Proofs.YtoioiddjbanahaaGreatDoor

open Go.RowKit

set_option maxRecDepth 100000 in
set_option maxHeartbeats 4000000 in
theorem cShownAttrs7 (a : Option Addr) (cap : Nat) (l : List At) (w : World) (hR : AtRow w a l) (hz : AtSz 1048576 l) (h6 : l.length <= 7) :
  Calls Tryz.prog 159 #[.slice a l.length cap] w fun e w' => e = .returned (.string (atsS l ⟨#[]⟩)) /\ Below w.heap.size w w' := by
 obtain ⟨V, hV⟩ : ∃ V, atsS l ⟨#[]⟩ = V := ⟨_, rfl⟩
 have HV := hid hV
 rw [hV]
 clear hV
 have HR := hid hR
 have HZ := hid hz
 clear hR hz
 obtain ⟨n, hn⟩ : ∃ n, l.length = n := ⟨_, rfl⟩
 have HN := hid hn
 rw [hn] at h6 ⊢
 clear hn
 go_enter Tryz.func159, Tryz.ntmps159
 go_wp2_with fail
 go_loopw [8] (fun k wr => ∃ i : Nat, k = .int .i64 (i : Int) /\ i <= n /\ Hid (Lib.IsBuilder 213 5 w.heap.size w.heap.size (Lib.strCells (atsS (l.take i) ⟨#[]⟩)) wr) /\ Hid (Below w.heap.size w wr) /\ w.heap.size < wr.heap.size) (fun k _ => n - (intOf k).toNat)
 case atStart => exact ⟨0, rfl, Nat.zero_le _, Lib.fresh_isBuilder 213 5 _, (Below.refl _ _).alloc (Nat.le_refl _) _, by simp⟩
 case round =>
  obtain ⟨i, rfl, hi, HI, HB, hsz⟩ := hrel
  have HS1 := atsS_size (l.take i) ⟨#[]⟩ (fun x hx => HZ.out x (List.mem_of_mem_take hx))
  rw [show (⟨#[]⟩ : ByteArray).size = 0 from rfl, List.length_take] at HS1
  have hz2 : (Lib.strCells (atsS (l.take i) ⟨#[]⟩)).length <= 60000000 := by rw [Lib.strCells_length]; omega
  clear HS1
  by_cases hlt : i < n
  ·have his : i < l.length := by rw [HN.out]; exact hlt
   have hin : (i : Int) < (n : Int) := by omega
   obtain ⟨b, o, rfl, hb, c1, c2⟩ := (HR.out.below HB.out) i his
   obtain ⟨z1, z2⟩ := HZ.out _ (List.getElem_mem his)
   have HX := hid (show atsS (l.take (i + 1)) ⟨#[]⟩ = atsS (l.take i) ⟨#[]⟩ ++ atS l[i] by rw [take_snocN his, atsS_snoc])
   have e0 : atS l[i] = ((((((⟨#[32]⟩ : ByteArray) ++ l[i].name) ++ ⟨#[61]⟩) ++ ⟨#[34]⟩) ++ escS true l[i].value) ++ ⟨#[34]⟩) := (atS_assoc _ _).symm
   rw [e0] at HX
   have z3 := escS_size true l[i].value
   have C := hid (fun w => c_impl_Escaped l[i].value true w z2)
   have e1 : (⟨(escapedL true l[i].value.data.toList).toArray⟩ : ByteArray) = escS true l[i].value := rfl
   rw [e1] at C
   generalize escS true l[i].value = E at *
   generalize l[i].name = x at *
   generalize l[i].value = y at *
   generalize atsS (l.take i) ⟨#[]⟩ = cur at *
   clear e0 e1
   have C32 := hid c_itself_32
   have C61 := hid c_itself_61
   have C34 := hid c_itself_34
   obtain ⟨B32, q32⟩ : ∃ B : ByteArray, (⟨#[32]⟩ : ByteArray) = B := ⟨_, rfl⟩
   obtain ⟨B61, q61⟩ : ∃ B : ByteArray, (⟨#[61]⟩ : ByteArray) = B := ⟨_, rfl⟩
   obtain ⟨B34, q34⟩ : ∃ B : ByteArray, (⟨#[34]⟩ : ByteArray) = B := ⟨_, rfl⟩
   rw [q32] at C32 HX
   rw [q61] at C61 HX
   rw [q34] at C34 HX
   have v32 : B32.size = 1 := by rw [<- q32]; rfl
   have v61 : B61.size = 1 := by rw [<- q61]; rfl
   have v34 : B34.size = 1 := by rw [<- q34]; rfl
   clear q32 q61 q34
   obtain ⟨S1, h1⟩ : ∃ S, B32 ++ x = S := ⟨_, rfl⟩
   obtain ⟨S2, h2⟩ : ∃ S, S1 ++ B61 = S := ⟨_, rfl⟩
   obtain ⟨S3, h3⟩ : ∃ S, S2 ++ B34 = S := ⟨_, rfl⟩
   obtain ⟨S4, h4⟩ : ∃ S, S3 ++ E = S := ⟨_, rfl⟩
   obtain ⟨S5, h5⟩ : ∃ S, S4 ++ B34 = S := ⟨_, rfl⟩
   rw [h1, h2, h3, h4, h5] at HX
   have g1 := of_size h1
   have g2 := of_size h2
   have g3 := of_size h3
   have g4 := of_size h4
   have g5 := of_size h5
   have f1 : ¬ 9223372036854775807 < B32.size + x.size := by omega
   have f2 : ¬ 9223372036854775807 < S1.size + B61.size := by omega
   have f3 : ¬ 9223372036854775807 < S2.size + B34.size := by omega
   have f4 : ¬ 9223372036854775807 < S3.size + E.size := by omega
   have f5 : ¬ 9223372036854775807 < S4.size + B34.size := by omega
   have hlen : (Lib.strCells cur).length + S5.size <= 140737488355328 := by omega
   clear g1 g2 g3 g4 g5 v32 v61 v34 z1 z2 z3 hz2
   have M := hid (heap_alloc_new wr (.cells #[.string x, .string y] 67))
   have HB0 := hid (HB.out.alloc HB.out.size (.cells #[.string x, .string y] 67))
   have HI0 := hid (isBuilder_below HI.out ((Below.refl wr.heap.size wr).alloc (Nat.le_refl _) (.cells #[.string x, .string y] 67)))
   obtain ⟨g, hg⟩ : ∃ g, wr.heap.size = g := ⟨_, rfl⟩
   have Hg := hid hg
   go_wp2_with fail
   obtain ⟨W0, hW0⟩ : ∃ W0, wr.alloc (.cells #[.string x, .string y] 67) = W0 := ⟨_, rfl⟩
   rw [hW0] at M HB0 HI0
   simp only [hW0, hg] at M ⊢
   have HBc := hid ((Below.refl W0.heap.size W0).drew)
   have hgl := hid (lt_of_heap M.out)
   have hk := hid (box2c M.out)
   have hgb : ¬ g = w.heap.size := by omega
   clear c1 c2 hW0
   go_region_held3 (fun w' => w'.cell? ⟨g, 0, none⟩ = some (.string x) /\ w'.cell? ⟨g, 1, none⟩ = some (.string y)) (first | exact HK.out | exact ⟨(HBc.out.cell (p := ⟨g, 0, none⟩) hgl.out).trans hk.out.1, (HBc.out.cell (p := ⟨g, 1, none⟩) hgl.out).trans hk.out.2⟩)
    (first
     | (go_at_call 122; refine (C32.out _).mono ?_; rintro e w1 ⟨rfl, hb1⟩; replace HBc := hid (bb HBc.out hb1); clear hb1)
     | (go_at_call 122; refine (C61.out _).mono ?_; rintro e w1 ⟨rfl, hb1⟩; replace HBc := hid (bb HBc.out hb1); clear hb1)
     | (go_at_call 122; refine (C34.out _).mono ?_; rintro e w1 ⟨rfl, hb1⟩; replace HBc := hid (bb HBc.out hb1); clear hb1)
     | (go_at_call 161; refine (C.out _).mono ?_; rintro e w1 ⟨rfl, hb1⟩; replace HBc := hid (bb HBc.out hb1); clear hb1)
     | (go_at_call 174; refine (writeString w.heap.size w.heap.size (Lib.strCells cur) _ _ (isBuilder_below HI0.out HBc.out) hlen ?c2).mono ?_; (case c2 => (have := HBc.out.size; have := hgl.out; omega)); rintro e w2 ⟨rfl, hI2, hb2, hk2⟩; have HK := hid (pair_kept M.out HBc.out hk2 hgb (by decide)); have HI2 := hid hI2; have HB2 := hid ((bb HB0.out HBc.out).trans hb2); have HZ2 := hid (show w.heap.size < w2.heap.size by have := hb2.size; have := HBc.out.size; have := hgl.out; omega); clear hI2 hb2 hk2))
   go_wp2_with fail
   go_roundw
   case rel => exact ⟨i + 1, by go_num, by omega, by rw [HX.out, <- strCells_app]; exact HI2.out, HB2.out, HZ2.out⟩
   case measure => simp [intOf]; omega
  ·have hie : i = n := by omega
   subst hie
   have e1 : atsS (l.take i) ⟨#[]⟩ = V := by rw [List.take_of_length_le (by rw [HN.out]; exact Nat.le_refl _)]; exact HV.out
   rw [e1] at HI hz2
   have e2 := str_eta V
   have hI2 := HI.out
   rw [Lib.strCells_eq] at hI2
   have C := hid (fun h => Tryz.Builder_String_any _ _ _ wr hI2 h)
   rw [e2] at C
   clear hI2 e1 e2
   go_wp2_with fail
   refine (C.out (Nat.le_of_lt hsz)).mono ?_
   rintro e w2 ⟨rfl, hb2⟩
   have HB2 := hid (HB.out.trans hb2)
   go_wp2_with fail
   go_ret
   exact ⟨rfl, HB2.out⟩

end Go.Proofs.YtoioiddjbanahaaGreatDoor
