/- The library contracts that the proofs lean on, laid at this program: a field a fact of the program, each contract one application. The prefixes that are needed: contract of neededPrefixes. The declarations that are new: contracts of declaration and newDeclarations. -/
import Derived.Test.YtkejmifkjgpdjaaGreatProg
import Derived.Test.YtkejmifkjgpdjaaGreatM31
import Derived.Test.YtkejmifkjgpdjaaGreatM32
import Derived.Test.YtkejmifkjgpdjaaGreatM15
import Derived.Shelf.Slices.CompactS
import Derived.Shelf.Sort.Plain
import Derived.Shelf.Strings.Builder1
namespace Go.Proofs
open Go.Shelf
def Tryz.lays190_ren : Go.Shelf.Ren := ⟨fun | 190 => 132 | 125 => 145 | 258 => 148 | 128 => 159 | 129 => 160 | 302 => 162 | 303 => 163 | 304 => 164 | 305 => 165 | 306 => 166 | 307 => 167 | 308 => 168 | 309 => 169 | 310 => 170 | 333 => 176 | 329 => 172 | 330 => 173 | 334 => 177 | 335 => 178 | 336 => 161 | 344 => 180 | n => n, fun | 31 => 24 | 9 => 9 | 3 => 3 | 46 => 170 | 0 => 0 | 51 => 185 | 53 => 187 | 4 => 4 | 183 => 178 | 182 => 177 | 131 => 182 | 5 => 5 | 218 => 194 | 222 => 198 | 228 => 202 | 229 => 203 | n => n, fun | n => n⟩
theorem Tryz.lays190 : Go.Proofs.Lays.n190 Tryz.prog Tryz.lays190_ren := {
  mixed := by kernel_rfl
  f125 := Tryz.func145.trans (congrArg some (by kernel_rfl))
  f128 := Tryz.func159.trans (congrArg some (by kernel_rfl))
  f129 := Tryz.func160.trans (congrArg some (by kernel_rfl))
  f190 := Tryz.func132.trans (congrArg some (by kernel_rfl))
  f258 := Tryz.func148.trans (congrArg some (by kernel_rfl))
  f302 := Tryz.func162.trans (congrArg some (by kernel_rfl))
  f303 := Tryz.func163.trans (congrArg some (by kernel_rfl))
  f304 := Tryz.func164.trans (congrArg some (by kernel_rfl))
  f305 := Tryz.func165.trans (congrArg some (by kernel_rfl))
  f306 := Tryz.func166.trans (congrArg some (by kernel_rfl))
  f307 := Tryz.func167.trans (congrArg some (by kernel_rfl))
  f308 := Tryz.func168.trans (congrArg some (by kernel_rfl))
  f309 := Tryz.func169.trans (congrArg some (by kernel_rfl))
  f310 := Tryz.func170.trans (congrArg some (by kernel_rfl))
  f329 := Tryz.func172.trans (congrArg some (by kernel_rfl))
  f330 := Tryz.func173.trans (congrArg some (by kernel_rfl))
  f333 := Tryz.func176.trans (congrArg some (by kernel_rfl))
  f334 := Tryz.func177.trans (congrArg some (by kernel_rfl))
  f335 := Tryz.func178.trans (congrArg some (by kernel_rfl))
  f336 := Tryz.func161.trans (congrArg some (by kernel_rfl))
  f344 := Tryz.func180.trans (congrArg some (by kernel_rfl))
  t0 := Tryz.underlying0
  a0 := Tryz.isAgg0
  z0 := Tryz.sizeOf0
  v0 := Tryz.zeroValue0
  t3 := Tryz.underlying3
  a3 := Tryz.isAgg3
  z3 := Tryz.sizeOf3
  v3 := Tryz.zeroValue3
  t4 := Tryz.underlying4
  a4 := Tryz.isAgg4
  z4 := Tryz.sizeOf4
  v4 := Tryz.zeroValue4
  t5 := Tryz.underlying5
  a5 := Tryz.isAgg5
  z5 := Tryz.sizeOf5
  v5 := Tryz.zeroValue5
  t9 := Tryz.underlying9
  a9 := Tryz.isAgg9
  z9 := Tryz.sizeOf9
  v9 := Tryz.zeroValue9
  t31 := Tryz.underlying24
  a31 := Tryz.isAgg24
  z31 := Tryz.sizeOf24
  v31 := Tryz.zeroValue24
  t46 := Tryz.underlying170
  a46 := Tryz.isAgg170
  z46 := Tryz.sizeOf170
  v46 := Tryz.zeroValue170
  t51 := Tryz.underlying185
  a51 := Tryz.isAgg185
  z51 := Tryz.sizeOf185
  v51 := Tryz.zeroValue185
  t53 := Tryz.underlying187
  a53 := Tryz.isAgg187
  z53 := Tryz.sizeOf187
  v53 := Tryz.zeroValue187
  t131 := Tryz.underlying182
  a131 := Tryz.isAgg182
  z131 := Tryz.sizeOf182
  v131 := Tryz.zeroValue182
  t182 := Tryz.underlying177
  a182 := Tryz.isAgg177
  z182 := Tryz.sizeOf177
  v182 := Tryz.zeroValue177
  t183 := Tryz.underlying178
  a183 := Tryz.isAgg178
  z183 := Tryz.sizeOf178
  v183 := Tryz.zeroValue178
  t218 := Tryz.underlying194
  a218 := Tryz.isAgg194
  z218 := Tryz.sizeOf194
  v218 := Tryz.zeroValue194
  t222 := Tryz.underlying198
  a222 := Tryz.isAgg198
  z222 := Tryz.sizeOf198
  v222 := Tryz.zeroValue198
  t228 := Tryz.underlying202
  a228 := Tryz.isAgg202
  z228 := Tryz.sizeOf202
  v228 := Tryz.zeroValue202
  t229 := Tryz.underlying203
  a229 := Tryz.isAgg203
  z229 := Tryz.sizeOf203
  v229 := Tryz.zeroValue203 }
open Go.Sort Go.RowKit in
theorem Tryz.slices_Sort_string (blk off cap : Nat) (ss : List (List UInt8)) (w : World) (hH : Holds encStr w blk off ss.toArray) (hblk : blk < w.heap.size) (hsz : ss.length < 4611686018427387904) :
    Calls Tryz.prog 132 #[.slice (some ⟨blk, off, none⟩) ss.length cap] w fun e w' =>
      e = .returned (.tuple #[]) ∧ ∃ n os, w' = grow (putRow encStr (Sort.ahead w n) blk off (ss.mergeSort fun x y => decide (x ≤ y)).toArray) os := Any.slices_Sort_string Tryz.lays190 blk off cap ss w hH hblk hsz
def Tryz.lays194_ren : Go.Shelf.Ren := ⟨fun | 194 => 133 | n => n, fun | 31 => 24 | 9 => 9 | 3 => 3 | 4 => 4 | 0 => 0 | n => n, fun | n => n⟩
theorem Tryz.lays194 : Go.Proofs.Lays.n194 Tryz.prog Tryz.lays194_ren := {
  mixed := by kernel_rfl
  f194 := Tryz.func133.trans (congrArg some (by kernel_rfl))
  t0 := Tryz.underlying0
  a0 := Tryz.isAgg0
  z0 := Tryz.sizeOf0
  v0 := Tryz.zeroValue0
  t3 := Tryz.underlying3
  a3 := Tryz.isAgg3
  z3 := Tryz.sizeOf3
  v3 := Tryz.zeroValue3
  t4 := Tryz.underlying4
  a4 := Tryz.isAgg4
  z4 := Tryz.sizeOf4
  v4 := Tryz.zeroValue4
  t9 := Tryz.underlying9
  a9 := Tryz.isAgg9
  z9 := Tryz.sizeOf9
  v9 := Tryz.zeroValue9
  t31 := Tryz.underlying24
  a31 := Tryz.isAgg24
  z31 := Tryz.sizeOf24
  v31 := Tryz.zeroValue24 }
open Go.RowKit Go.Lib Go.Sort in
theorem Tryz.slices_Compact_string (blk off cap : Nat) (zs : List (List UInt8)) (w : World) (hH : Holds encStr w blk off zs.toArray) (hsz : zs.length ≤ 9223372036854775807) (hcap : zs.length ≤ cap) :
    Calls Tryz.prog 133 #[.slice (some ⟨blk, off, none⟩) zs.length cap] w fun e w' => e = .returned (.slice (some ⟨blk, off, none⟩) (Lib.compact zs).length cap) ∧ ∃ q, w' = putRow encStr (Sort.ahead w q) blk off (Lib.compact zs ++ List.replicate (zs.length - (Lib.compact zs).length) []).toArray := Any.slices_Compact_string Tryz.lays194 blk off cap zs w hH hsz hcap
end Go.Proofs

namespace Go.Proofs.YtkejmifkjgpdjaaGreat
open Go.RowKit Go.Sort
set_option linter.unusedVariables false
set_option linter.unusedSimpArgs false

theorem below_put {w wx : World} {g n : Nat} {d : Array BL} (h : Below w.heap.size w wx) (hg : w.heap.size ≤ g) : Below w.heap.size w (putRow encStr (Sort.ahead wx n) g 0 d) := by
  refine ⟨h.os, h.tape, h.output, by rw [size_putRow]; exact h.size, fun k hk => ?_⟩
  rw [← h.block k hk]
  unfold putRow mapBlock
  show (Array.modify _ _ _)[k]? = _
  rw [Array.getElem?_modify]
  have : ¬ g = k := by omega
  rw [if_neg this]
  rfl

theorem below_grow {w wx : World} {os : Array Obj} (h : Below w.heap.size w wx) : Below w.heap.size w (grow wx os) :=
  ⟨h.os, h.tape, h.output, by rw [size_grow]; exact Nat.le_trans h.size (Nat.le_add_right _ _), fun k hk => by
    rw [heap_grow_old wx os (Nat.lt_of_lt_of_le hk h.size)]
    exact h.block k hk⟩

/-- The prefixes of the others that have one, behind the element's own. -/
noncomputable def rawP (nm : ByteArray) (os : List At) : List ByteArray := [preS nm] ++ (os.filter fun x => !decide ((preS x.name).size = 0)).map fun x => preS x.name

theorem rawP_next (nm : ByteArray) {os : List At} {i : Nat} (h : i < os.length) : rawP nm (os.take (i + 1)) = rawP nm (os.take i) ++ (if (preS os[i].name).size = 0 then [] else [preS os[i].name]) := by
  unfold rawP
  rw [take_snocN h, List.filter_append, List.map_append, List.append_assoc]
  congr 2
  by_cases hq : (preS os[i].name).size = 0
  · rw [if_pos hq, List.filter_cons, if_neg (by rw [decide_eq_true hq]; decide)]
    rfl
  · rw [if_neg hq, List.filter_cons, if_pos (by rw [decide_eq_false hq]; rfl)]
    rfl

theorem compact_len (M : List BL) : (Lib.compact M).length ≤ M.length := by
  unfold Lib.compact Lib.compactUpTo
  rw [List.length_map]
  exact Nat.le_trans (List.length_filter_le _ _) (by rw [List.length_range]; exact Nat.le_refl _)

noncomputable def needL (nm : ByteArray) (os : List At) : List ByteArray := (Lib.compact (((rawP nm os).map ByteArray.toList).mergeSort fun x y => decide (x ≤ y))).map mkB

theorem strs_more {w1 : World} {B : Nat} {v : Value} {ps : List ByteArray} {q : ByteArray} (h : w1.ownsRow B 9 1 v (ps.length + 1) (keyV ps ++ [.string q])) : ∃ g c, v = .slice (some ⟨g, 0, none⟩) (ps ++ [q]).length c ∧ B ≤ g ∧ w1.ownsRow B 9 1 (.slice (some ⟨g, 0, none⟩) (ps ++ [q]).length c) (ps ++ [q]).length (keyV (ps ++ [q])) := by
  have e : keyV ps ++ [.string q] = keyV (ps ++ [q]) := by simp [keyV]
  have e2 : (ps ++ [q]).length = ps.length + 1 := by simp
  rw [e] at h
  rw [e2]
  rcases h.2 with ⟨_, h0⟩ | ⟨g, c, cu, hv, hr⟩
  · omega
  · exact ⟨g, c, hv, hr.1, by rw [← hv]; exact h⟩

theorem own_one (w : World) (B : Nat) (p : ByteArray) (hB : B ≤ w.heap.size) : (w.alloc (.cells #[.string p] 9)).ownsRow B 9 1 (.slice (some ⟨w.heap.size, 0, none⟩) [p].length 1) [p].length (keyV [p]) :=
  ⟨rfl, .inr ⟨w.heap.size, 1, #[.string p], rfl, hB, heap_alloc_new w _, Nat.le_refl _, by decide, rfl, rfl⟩⟩

theorem own_holds {w1 : World} {B g c : Nat} {ps : List ByteArray} (h : w1.ownsRow B 9 1 (.slice (some ⟨g, 0, none⟩) ps.length c) ps.length (keyV ps)) : Holds encStr w1 g 0 (ps.map ByteArray.toList).toArray ∧ g < w1.heap.size ∧ ps.length ≤ c := by
  rcases h.2 with ⟨h0, _⟩ | ⟨g', c', cu, hv, h1, h2, h3, h4, h5, h6⟩
  · cases h0
  · injection hv with e1 e2 e3
    injection e1 with e1
    injection e1 with e1
    subst e1 e3
    refine ⟨fun j hj => ?_, lt_of_heap h2, h3⟩
    have hj' : j < ps.length := by simpa using hj
    refine ⟨?_, Lib.frozen_of_heap h2 _⟩
    have hl : j < ps.length * 1 := by omega
    have := World.ownsRow.cellAt h j hl
    rw [Nat.zero_add, this]
    simp only [keyV, List.getElem?_map, List.getElem?_eq_getElem hj', Option.map_some]
    have e : (ps.map ByteArray.toList).toArray[j]! = ps[j].toList := by simp [hj']
    rw [e]
    show some (Value.string ps[j]) = some (.string (mkB ps[j].toList))
    rw [mkB_eta]

theorem holds_cells {w : World} {g : Nat} {K : List BL} {R : List BL} (h : Holds encStr w g 0 (K ++ R).toArray) : CellsAt w g 0 (keyV (K.map mkB)) := by
  intro j u hj
  have hj' : j < K.length := by
    have := (List.getElem?_eq_some_iff.1 hj).1
    simpa [keyV] using this
  have h1 := (h j (by simp; omega)).1
  rw [h1]
  have e : (K ++ R).toArray[j]! = K[j] := by
    have hlt : j < (K ++ R).length := by rw [List.length_append]; omega
    rw [getElem!_pos _ j (by simpa using hlt)]
    simp [List.getElem_append_left hj']
  rw [e]
  simp only [keyV, List.map_map, List.getElem?_map, List.getElem?_eq_getElem hj', Option.map_some] at hj
  exact hj

set_option maxRecDepth 8000 in
set_option maxHeartbeats 4000000 in
theorem cNeeded (nm : ByteArray) (aa : Option Addr) (ca : Nat) (os : List At) (w : World) (hR : AtRow w aa os) (hz : AtSz 1048576 os) (hn : os.length ≤ 6) (hm : nm.size ≤ 1048576) :
    Calls Tryz.prog 99 #[.string nm, .slice aa os.length ca] w fun e w' => ∃ v, e = .returned v ∧ Rd w' 1 v (needL nm os).length (keyV (needL nm os)) ∧ Below w.heap.size w w' := by
  obtain ⟨i0, hi, hz0, hz1, hz2⟩ := info_parts infoS
  have HI := hid (And.intro hi (And.intro hz0 (And.intro hz1 hz2)))
  clear hi hz0 hz1 hz2
  obtain ⟨S, hS⟩ : ∃ S, needL nm os = S := ⟨_, rfl⟩
  rw [hS]
  have HSS := hid hS
  have CP := hid (fun wx => cPartsI nm wx hm)
  have HR := hid hR
  have HZ := hid hz
  have HP0 := hid (show rawP nm (os.take 0) = [preS nm] from rfl)
  clear hS hR hz hm
  obtain ⟨n, hnn⟩ : ∃ n, os.length = n := ⟨_, rfl⟩
  have HN := hid hnn
  rw [hnn] at hn ⊢
  clear hnn
  generalize preS nm = P0 at *
  generalize locS nm = L0 at *
  go_enter Tryz.func99, Tryz.ntmps99
  go_wp2_with fail
  refine (CP.out _).mono ?_
  rintro e w1 ⟨rfl, hb1⟩
  have HB1 := hid (hb1.alloc hb1.size (.cells #[.string P0] 9))
  have HO1 := hid (own_one w1 w.heap.size P0 hb1.size)
  have HG1 := hid hb1.size
  clear hb1 CP
  go_wp2_with fail
  go_loopw [7, 21] (fun v7 v21 wr => ∃ (j g c : Nat) (ps : List ByteArray), v21 = .int .i64 (j : Int) ∧ j ≤ n ∧ v7 = .slice (some ⟨g, 0, none⟩) ps.length c ∧ ps.length ≤ j + 1 ∧ Hid (ps = rawP nm (os.take j)) ∧ Hid (w.heap.size ≤ g) ∧ Hid (wr.ownsRow w.heap.size 9 1 (.slice (some ⟨g, 0, none⟩) ps.length c) ps.length (keyV ps)) ∧ Hid (Below w.heap.size w wr)) (fun _ v21 _ => n - (intOf v21).toNat)
  case atStart => exact ⟨0, w1.heap.size, 1, [P0], rfl, Nat.zero_le _, rfl, by simp, HP0.out.symm, HG1.out, HO1.out, HB1.out⟩
  case round =>
    clear HB1 HO1 HG1
    obtain ⟨j, g, c, ps, rfl, hj, rfl, hps, HK, HG, HOW, HB⟩ := hrel
    by_cases hjl : j < n
    · have hjt : j < os.length := by rw [HN.out]; exact hjl
      have hjn : (j : Int) < (n : Int) := by omega
      obtain ⟨b, o, rfl, hb, c1, c2⟩ := (HR.out.below HB.out) j hjt
      have HS := hid (HZ.out _ (List.getElem_mem hjt))
      have HTS := hid (rawP_next nm hjt)
      obtain ⟨y, hy⟩ : ∃ y, os[j] = y := ⟨_, rfl⟩
      rw [hy] at c1 c2 HS HTS
      clear hy
      rw [← HK.out] at HTS
      have CP := hid (fun wx => cPartsI y.name wx HS.out.1)
      have EP := empty_is (preS y.name)
      generalize preS y.name = Q at *
      generalize locS y.name = L at *
      have HBX := hid (HB.out.alloc HB.out.size (.cells #[.string y.name, .string y.value] 62))
      have HO1 := hid (HOW.out.alloc (.cells #[.string y.name, .string y.value] 62))
      obtain ⟨nk, hnk⟩ : ∃ nk, ps.length = nk := ⟨_, rfl⟩
      have HNK := hid hnk
      rw [hnk] at hps HO1 ⊢
      clear hnk HOW
      go_wp2_with fail
      refine (CP.out _).mono ?_
      rintro e w2 ⟨rfl, hb2⟩
      have HB2 := hid (bb HBX.out hb2)
      have HO2 := hid (ownsRow_below HO1.out hb2)
      clear hb2 HBX CP c1 c2 HO1 hb HB
      by_cases hq : Q.size = 0
      · rw [decide_eq_true hq] at EP
        have HE := hid (show ps = rawP nm (os.take (j + 1)) by rw [HTS.out, if_pos hq, List.append_nil])
        have EP2 : (!Q.toList.isEmpty) = false := by rw [EP]; rfl
        clear hq
        go_wp2_with fail
        go_roundw
        case rel => exact ⟨j + 1, g, c, ps, by go_num, by omega, by rw [HNK.out], by rw [HNK.out]; omega, HE.out, HG.out, by rw [HNK.out]; exact HO2.out, HB2.out⟩
        case measure => simp [intOf]; omega
      · rw [decide_eq_false hq] at EP
        have HE := hid (show ps ++ [Q] = rawP nm (os.take (j + 1)) by rw [HTS.out, if_neg hq])
        have EP2 : (!Q.toList.isEmpty) = true := by rw [EP]; rfl
        have hsz := HB2.out.size
        clear hq
        go_wp2_with (at_builtin; refine wpList_append_own _ rfl _ _ 24 rfl w.heap.size 9 i0 _ 1 16 Tryz.underlying24 HI.out.1 HI.out.2.1 HI.out.2.2.1 HI.out.2.2.2 rfl (by decide) _ _ _ rfl (HO2.out.alloc _) ⟨w2.heap.size, 0, none⟩ 1 1 [.string Q] rfl rfl (one_cell _ _ _) (one_str _) (by unfold maxLen; omega) (by omega) (by simp; omega) ?_)
        intro v' w7 hown' hgrow _
        have HB7 := hid ((HB2.out.alloc hsz _).grown hgrow (by simp; omega) (fun k hk => (HO2.out.lt k hk).1))
        rw [← HNK.out] at hown'
        obtain ⟨g9, c9, rfl, hg9, ho9⟩ := strs_more (q := Q) hown'
        have HO9 := hid ho9
        have HG9 := hid hg9
        clear hown' hgrow ho9 hg9
        have HL9 := hid (show (ps ++ [Q]).length ≤ j + 1 + 1 by rw [List.length_append, HNK.out]; show _ + 1 ≤ _; omega)
        generalize ps ++ [Q] = ps9 at *
        go_wp2_with fail
        go_roundw
        case rel => exact ⟨j + 1, g9, c9, ps9, by go_num, by omega, rfl, HL9.out, HE.out, HG9.out, HO9.out, HB7.out⟩
        case measure => simp [intOf]; omega
    · have hjn : j = n := by omega
      subst hjn
      have HE := hid (show ps = rawP nm os by
        have h := HK.out
        rw [List.take_of_length_le (by rw [HN.out]; omega)] at h
        exact h)
      obtain ⟨h1, h2, h3⟩ := own_holds HOW.out
      have CS := hid (Tryz.slices_Sort_string g 0 c (ps.map ByteArray.toList) wr h1 h2 (by rw [List.length_map]; omega))
      obtain ⟨M, hM⟩ : ∃ M, (ps.map ByteArray.toList).mergeSort (fun x y => decide (x ≤ y)) = M := ⟨_, rfl⟩
      have HML := hid (show M.length = ps.length by rw [← hM, List.length_mergeSort, List.length_map])
      have HH := hid h1
      have HLT := hid h2
      rw [hM, List.length_map] at CS
      have HM := hid hM
      have HCL := hid h3
      have HSZ := hid (show ps.length ≤ 9223372036854775807 by omega)
      obtain ⟨nk, hnk⟩ : ∃ nk, ps.length = nk := ⟨_, rfl⟩
      have HNK := hid hnk
      rw [hnk] at CS HML HCL HSZ ⊢
      clear hnk h1 h2 h3 hM HOW
      go_wp2_with fail
      refine CS.out.mono ?_
      rintro e w2 ⟨rfl, q, oo, hw2⟩
      have HB2 := hid (show Below w.heap.size w w2 by rw [hw2]; exact below_grow (below_put HB.out HG.out))
      have HH2 := hid (show Holds encStr w2 g 0 M.toArray by
        rw [hw2]
        exact holds_grow _ _ _ _ _ _ (by rw [size_putRow]; exact HLT.out) (holds_putRow _ _ _ _ (ps.map ByteArray.toList).toArray _ (holds_ahead _ _ _ _ _ _ HH.out) (by simp [HML.out, HNK.out])))
      have HL2 := hid (show g < w2.heap.size from Nat.lt_of_lt_of_le HLT.out (by rw [hw2, size_grow, size_putRow]; exact Nat.le_add_right _ _))
      have CC := hid (Tryz.slices_Compact_string g 0 c M w2 HH2.out (by rw [HML.out]; exact HSZ.out) (by rw [HML.out]; exact HCL.out))
      rw [HML.out] at CC
      clear hw2 CS HB
      go_wp2_with fail
      refine CC.out.mono ?_
      rintro e w3 ⟨rfl, q3, hw3⟩
      have HB3 := hid (show Below w.heap.size w w3 by rw [hw3]; exact below_put HB2.out HG.out)
      have HKL := hid (show (Lib.compact M).length ≤ nk by
        have := compact_len M
        rw [HML.out] at this
        exact this)
      have HH3 := hid (show Holds encStr w3 g 0 (Lib.compact M ++ List.replicate (nk - (Lib.compact M).length) []).toArray by
        rw [hw3]
        refine holds_putRow _ _ _ _ M.toArray _ (holds_ahead _ _ _ _ _ _ HH2.out) ?_
        have := HKL.out
        simp [HML.out]
        omega)
      have HSK := hid (show S = (Lib.compact M).map mkB by rw [← HSS.out]; unfold needL; rw [← HE.out, HM.out])
      have HRD := hid (show Rd w3 1 (.slice (some ⟨g, 0, none⟩) S.length c) S.length (keyV S) from by
        refine ⟨⟨g, 0, c, rfl, ?_, ?_, ?_⟩, ?_⟩
        · exact Nat.lt_of_lt_of_le HL2.out (by rw [hw3, size_putRow]; exact Nat.le_refl _)
        · rw [HSK.out, List.length_map]; exact Nat.le_trans HKL.out HCL.out
        · rw [HSK.out]; exact holds_cells HH3.out
        · simp [keyV])
      have HSL := hid (show (Lib.compact M).length = S.length by rw [HSK.out, List.length_map])
      rw [HSL.out]
      clear hw3 CC HH3
      go_wp2_with fail
      go_ret
      exact ⟨_, rfl, HRD.out, HB3.out⟩

end Go.Proofs.YtkejmifkjgpdjaaGreat

namespace Go.Proofs.YtkejmifkjgpdjaaGreat
open Go.RowKit
set_option linter.unusedVariables false
set_option linter.unusedSimpArgs false

theorem c_itself_58 (w : World) : Calls Tryz.prog 101 #[.int .u8 58] w fun e w' => e = .returned (.string ⟨#[58]⟩) ∧ Below w.heap.size w w' := c__impl_sign__itself 58 w

set_option maxHeartbeats 2000000 in
theorem cDeclaration (p m : ByteArray) (w : World) (hp : p.size ≤ 1048576) :
    Calls Tryz.prog 131 #[.string p, .string m] w fun e w' => e = .returned (.agg #[.string (nmD p), .string m]) ∧ Below w.heap.size w w' := by
  have HB0 := hid ((Below.refl w.heap.size w).alloc (Nat.le_refl _) (.cells #[.string ⟨#[]⟩, .string ⟨#[]⟩] 62))
  have M1 := hid (heap_alloc_new w (.cells #[.string ⟨#[]⟩, .string ⟨#[]⟩] 62))
  have E := empty_is p
  have C := hid c_itself_58
  by_cases hq : p.size = 0
  · have HV := hid (show nmD p = ⟨#[110, 115]⟩ by unfold nmD; rw [if_pos hq])
    rw [HV.out]
    rw [decide_eq_true hq] at E
    clear HV hq hp C
    obtain ⟨⟨y0, y1⟩, f0, f1⟩ := box2e M1.out
    go_enter Tryz.func131, Tryz.ntmps131
    go_wp2_with fail
    refine bodyPost_ret (v := .agg #[.string ⟨#[110, 115]⟩, .string m]) (by simp [results, Tryz.results131, go_sem, y0, y1]) rfl ⟨rfl, ?_⟩
    first
      | exact HB0.out
      | exact (Below.refl w.heap.size w).alloc (Nat.le_refl _) _
  · have HV := hid (show nmD p = (⟨#[110, 115, 58]⟩ : ByteArray) ++ p by unfold nmD; rw [if_neg hq])
    obtain ⟨N, hN⟩ : ∃ N, (⟨#[110, 115, 58]⟩ : ByteArray) ++ p = N := ⟨_, rfl⟩
    have HN := hid hN
    rw [HV.out, hN]
    rw [decide_eq_false hq] at E
    have e1 : (⟨#[110, 115]⟩ : ByteArray) ++ ⟨#[58]⟩ = ⟨#[110, 115, 58]⟩ := rfl
    have z1 : (⟨#[110, 115]⟩ : ByteArray).size + (⟨#[58]⟩ : ByteArray).size ≤ 9223372036854775807 := by decide
    have z2 : (⟨#[110, 115, 58]⟩ : ByteArray).size + p.size ≤ 9223372036854775807 := by
      have : (⟨#[110, 115, 58]⟩ : ByteArray).size = 3 := rfl
      omega
    clear HV hq
    go_enter Tryz.func131, Tryz.ntmps131
    go_wp2_with fail
    refine (C.out _).mono ?_
    rintro e w1 ⟨rfl, hb1⟩
    have HB1 := hid (bb HB0.out hb1)
    obtain ⟨⟨y0, y1⟩, f0, f1⟩ := box2e (blk_below M1.out hb1)
    clear hb1
    go_wp2_with fail
    refine bodyPost_ret (v := .agg #[.string N, .string m]) (by simp [results, Tryz.results131, go_sem, y0, y1]) rfl ⟨rfl, ?_⟩
    iterate 2 refine Below.setCell ?_ (show w.heap.size ≤ w.heap.size from Nat.le_refl _) _
    exact HB1.out

/-- A prefix of which it is said otherwise around, or nothing. -/
noncomputable def needB (ls l2 : List At) (p : ByteArray) : Bool := open Classical in !(lookL l2 p).isSome || !decide ((lookL l2 p).getD ⟨#[]⟩ = (lookL ls p).getD ⟨#[]⟩)

noncomputable def dclP (ls l2 : List At) (ps : List ByteArray) : List At := (ps.filter (needB ls l2)).map fun p => ⟨nmD p, (lookL ls p).getD ⟨#[]⟩⟩

theorem dclP_next (ls l2 : List At) {ps : List ByteArray} {i : Nat} (h : i < ps.length) : dclP ls l2 (ps.take (i + 1)) = dclP ls l2 (ps.take i) ++ (if needB ls l2 ps[i] then [⟨nmD ps[i], (lookL ls ps[i]).getD ⟨#[]⟩⟩] else []) := by
  unfold dclP
  rw [take_snocN h, List.filter_append, List.map_append]
  congr 1
  cases hq : needB ls l2 ps[i] <;> simp [hq]

set_option maxRecDepth 8000 in
set_option maxHeartbeats 4000000 in
theorem cNewDecl (v : Value) (ps : List ByteArray) (F F2 : FuncId) (C C2 : Array Value) (ls l2 : List At) (w : World) (hR : Rd w 1 v ps.length (keyV ps)) (hA : Asks F C w ls) (hA2 : Asks F2 C2 w l2) (hz : ∀ p ∈ ps, p.size ≤ 1048576) (hn : ps.length ≤ 12) :
    Calls Tryz.prog 98 #[v, .func (.func F) #[] C, .func (.func F2) #[] C2] w fun e w' => ∃ a c, e = .returned (.slice a (dclP ls l2 ps).length c) ∧ NewAts w' w.heap.size a c (dclP ls l2 ps) ∧ Below w.heap.size w w' := by
  obtain ⟨gb, go, gc, rfl, hgb, hgc, _⟩ := hR.at_
  obtain ⟨i0, hi, hz0, hz1, hz2⟩ := info_parts infoAtW
  have HI := hid (And.intro hi (And.intro hz0 (And.intro hz1 hz2)))
  clear hi hz0 hz1 hz2
  obtain ⟨S, hS⟩ : ∃ S, dclP ls l2 ps = S := ⟨_, rfl⟩
  rw [hS]
  have HSS := hid hS
  clear hS
  have HR := hid hR
  have HA := hid hA
  have HA2 := hid hA2
  have HZ := hid hz
  clear hR hA hA2 hz hgb
  obtain ⟨n, hnn⟩ : ∃ n, ps.length = n := ⟨_, rfl⟩
  have HN := hid hnn
  rw [hnn] at hn hgc HR ⊢
  clear hnn
  go_enter Tryz.func98, Tryz.ntmps98
  go_wp2_with fail
  go_loopw [7, 16] (fun v7 v16 wr => ∃ (j : Nat) (a8 : Option Addr) (c8 : Nat) (ds : List At), v16 = .int .i64 (j : Int) ∧ j ≤ n ∧ v7 = .slice a8 ds.length c8 ∧ ds.length ≤ j ∧ Hid (ds = dclP ls l2 (ps.take j)) ∧ Hid (wr.ownsRow w.heap.size 62 2 (.slice a8 ds.length c8) ds.length (atC ds)) ∧ Hid (Below w.heap.size w wr)) (fun _ v16 _ => n - (intOf v16).toNat)
  case atStart => exact ⟨0, none, 0, [], rfl, Nat.zero_le _, rfl, Nat.zero_le _, rfl, World.ownsRow_nil _ _ _ _, Below.refl _ _⟩
  case round =>
    obtain ⟨j, a8, c8, ds, rfl, hj, rfl, hds, HK, HOW, HB⟩ := hrel
    by_cases hjl : j < n
    · have hjt : j < ps.length := by rw [HN.out]; exact hjl
      have hjn : (j : Int) < (n : Int) := by omega
      obtain ⟨b', o', c', e', hb', _, hcell⟩ := (HR.out.below HB.out).key hjt
      obtain ⟨rfl, rfl⟩ : gb = b' ∧ go = o' := by cases e'; exact ⟨rfl, rfl⟩
      have HS := hid (HZ.out _ (List.getElem_mem hjt))
      have HTS := hid (dclP_next ls l2 hjt)
      obtain ⟨p, hp⟩ : ∃ p, ps[j] = p := ⟨_, rfl⟩
      rw [hp] at hcell HS HTS
      rw [← HK.out] at HTS
      clear hp e'
      have he := HA.out.1 p
      have he2 := HA2.out.1 p
      have CM := hid (fun wx (hb : Below w.heap.size w wx) => HA.out.2 p wx hb HS.out)
      have CS := hid (fun wx (hb : Below w.heap.size w wx) => HA2.out.2 p wx hb HS.out)
      have CD := hid (fun m wx => cDeclaration p m wx HS.out)
      have HNB := hid (show needB ls l2 p = (!(lookL l2 p).isSome || !(((lookL l2 p).getD ⟨#[]⟩).toList == ((lookL ls p).getD ⟨#[]⟩).toList)) by unfold needB; rw [str_beq])
      generalize (lookL ls p).getD ⟨#[]⟩ = M at *
      generalize (lookL ls p).isSome = I at *
      generalize (lookL l2 p).getD ⟨#[]⟩ = M2 at *
      generalize (lookL l2 p).isSome = I2 at *
      generalize nmD p = ND at *
      obtain ⟨nk, hnk⟩ : ∃ nk, ds.length = nk := ⟨_, rfl⟩
      have HNK := hid hnk
      have HO1 := hid HOW.out
      rw [hnk] at hds HO1 ⊢
      clear hnk HOW
      go_wp2_with fail
      refine (CM.out _ HB.out).mono ?_
      rintro e w1 ⟨rfl, hb1⟩
      have HB1 := hid (bb HB.out hb1)
      have HO2 := hid (ownsRow_below HO1.out hb1)
      clear hb1 CM HO1 HB hcell he
      go_wp2_with fail
      refine (CS.out _ HB1.out).mono ?_
      rintro e w2 ⟨rfl, hb2⟩
      have HB2 := hid (bb HB1.out hb2)
      have HO3 := hid (ownsRow_below HO2.out hb2)
      clear hb2 CS HO2 HB1 he2
      obtain ⟨Q, hQ⟩ : ∃ Q, (M2.toList == M.toList) = Q := ⟨_, rfl⟩
      have hQ2 : (M2.toList != M.toList) = !Q := by unfold bne; rw [hQ]
      rw [hQ] at HNB
      cases I2 with
      | false =>
        have HE := hid (show ds ++ [⟨ND, M⟩] = dclP ls l2 (ps.take (j + 1)) by rw [HTS.out, HNB.out]; rfl)
        go_wp2_with fail
        refine (CD.out _ _).mono ?_
        rintro e w3 ⟨rfl, hb3⟩
        have HB3 := hid (bb HB2.out hb3)
        have HO4 := hid (ownsRow_below HO3.out hb3)
        clear hb3 HO3 HB2
        have hsz := HB3.out.size
        go_wp2_with (at_builtin; refine wpList_append_own _ rfl _ _ 42 rfl w.heap.size 62 i0 (.agg #[.string ⟨#[]⟩, .string ⟨#[]⟩]) 2 32 Tryz.underlying42 HI.out.1 HI.out.2.1 HI.out.2.2.1 HI.out.2.2.2 rfl (by decide) _ _ _ rfl (HO4.out.alloc _) ⟨w3.heap.size, 0, none⟩ 1 1 [.string ND, .string M] rfl rfl (two_cell _ _ _ _) (two_str _ _) (by unfold maxLen; omega) (by omega) (by simp; omega) ?_)
        intro v' w7 hown' hgrow _
        have HB7 := hid ((HB3.out.alloc hsz _).grown hgrow (by simp; omega) (fun k hk => (HO4.out.lt k hk).1))
        rw [← HNK.out] at hown'
        obtain ⟨a9, c9, rfl, ho9⟩ := ats_more (q := ⟨ND, M⟩) hown'
        have HO9 := hid ho9
        clear hown' hgrow ho9
        have HL9 := hid (show (ds ++ [(⟨ND, M⟩ : At)]).length ≤ j + 1 by rw [List.length_append, HNK.out]; show _ + 1 ≤ _; omega)
        generalize ds ++ [(⟨ND, M⟩ : At)] = ds9 at *
        go_wp2_with fail
        go_roundw
        case rel => exact ⟨j + 1, a9, c9, ds9, by go_num, by omega, rfl, HL9.out, HE.out, HO9.out, HB7.out⟩
        case measure => simp [intOf]; omega
      | true =>
        cases Q with
        | false =>
          have HE := hid (show ds ++ [⟨ND, M⟩] = dclP ls l2 (ps.take (j + 1)) by rw [HTS.out, HNB.out]; rfl)
          go_wp2_with fail
          refine (CD.out _ _).mono ?_
          rintro e w3 ⟨rfl, hb3⟩
          have HB3 := hid (bb HB2.out hb3)
          have HO4 := hid (ownsRow_below HO3.out hb3)
          clear hb3 HO3 HB2
          have hsz := HB3.out.size
          go_wp2_with (at_builtin; refine wpList_append_own _ rfl _ _ 42 rfl w.heap.size 62 i0 (.agg #[.string ⟨#[]⟩, .string ⟨#[]⟩]) 2 32 Tryz.underlying42 HI.out.1 HI.out.2.1 HI.out.2.2.1 HI.out.2.2.2 rfl (by decide) _ _ _ rfl (HO4.out.alloc _) ⟨w3.heap.size, 0, none⟩ 1 1 [.string ND, .string M] rfl rfl (two_cell _ _ _ _) (two_str _ _) (by unfold maxLen; omega) (by omega) (by simp; omega) ?_)
          intro v' w7 hown' hgrow _
          have HB7 := hid ((HB3.out.alloc hsz _).grown hgrow (by simp; omega) (fun k hk => (HO4.out.lt k hk).1))
          rw [← HNK.out] at hown'
          obtain ⟨a9, c9, rfl, ho9⟩ := ats_more (q := ⟨ND, M⟩) hown'
          have HO9 := hid ho9
          clear hown' hgrow ho9
          have HL9 := hid (show (ds ++ [(⟨ND, M⟩ : At)]).length ≤ j + 1 by rw [List.length_append, HNK.out]; show _ + 1 ≤ _; omega)
          generalize ds ++ [(⟨ND, M⟩ : At)] = ds9 at *
          go_wp2_with fail
          go_roundw
          case rel => exact ⟨j + 1, a9, c9, ds9, by go_num, by omega, rfl, HL9.out, HE.out, HO9.out, HB7.out⟩
          case measure => simp [intOf]; omega
        | true =>
          have HE := hid (show ds = dclP ls l2 (ps.take (j + 1)) by rw [HTS.out, HNB.out]; simp)
          go_wp2_with fail
          go_roundw
          case rel => exact ⟨j + 1, a8, c8, ds, by go_num, by omega, by rw [HNK.out], by rw [HNK.out]; omega, HE.out, by rw [HNK.out]; exact HO3.out, HB2.out⟩
          case measure => simp [intOf]; omega
    · have hjn : j = n := by omega
      subst hjn
      have HE := hid (show ds = S by
        have h := HK.out
        rw [List.take_of_length_le (by rw [HN.out]; omega), HSS.out] at h
        exact h)
      have HNA := hid (NewAts.of HOW.out)
      rw [HE.out] at HNA
      have HLN := hid (show ds.length = S.length by rw [HE.out])
      generalize ds.length = nk at *
      go_wp2_with fail
      go_ret
      exact ⟨a8, c8, by rw [← HLN.out]; rfl, HNA.out, HB.out⟩

end Go.Proofs.YtkejmifkjgpdjaaGreat
