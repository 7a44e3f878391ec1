/- Contracts of the program's attrNamesOk, elementNamesOk and NamesOk. Contract of idAt of the program: a loop that a label leaves. Contracts of the specification's l12All, AllKnown. -/
import Derived.Test.YtkejmifkjgpdjaaGreatM28
import Derived.Test.YtkejmifkjgpdjaaGreatM17
import Derived.Test.YtkejmifkjgpdjaaGreatM11
import Derived.Deep.LoopGhost
namespace Go.Proofs.YtkejmifkjgpdjaaGreat
open Go.RowKit
set_option linter.unusedVariables false
set_option linter.unusedSimpArgs false

theorem infoPr : (Tryz.prog.info? 145).map (fun i => (i.zero, i.size, i.bytes)) = some (some (.agg #[.string ⟨#[]⟩, .string ⟨#[]⟩]), 2, 32) := by kernel_rfl

theorem two_cell (t : TypeId) (w : World) (x y : Value) : ∀ j u, [x, y][j]? = some u → (w.alloc (.cells #[x, y] t)).cell? ((⟨w.heap.size, 0, none⟩ : Addr).add j) = some u := by
  intro j u hj
  match j, hj with
  | 0, hj => simp at hj; subst hj; simp [Addr.add]
  | 1, hj => simp at hj; subst hj; simp [Addr.add]

theorem two_str (s t : ByteArray) : ∀ u ∈ [Value.string s, .string t], u.oneCell' = true := by
  intro u hu
  simp at hu
  rcases hu with rfl | rfl <;> rfl

set_option maxRecDepth 4000 in
set_option maxHeartbeats 8000000 in
theorem cAttrNames (aa : Option Addr) (ca : Nat) (at0 : List At) (F : FuncId) (C : Array Value) (ts : List Tk) (i : Nat) (w : World) (B : Bool) (hB : B = true ↔ AttrsN ts i at0) (hF : Asks F C w (outAts ts i)) (hr : (outAts ts i).all rightB = true) (hR : AtRow w aa at0) (hz : AtSz 1048576 at0) (hn : at0.length ≤ 1048576) :
    Calls Tryz.prog 85 #[.slice aa at0.length ca, .func (.func F) #[] C] w fun e w' => e = .returned (.bool B) ∧ Below w.heap.size w w' := by
  obtain ⟨i0, hi, hz0, hz1, hz2⟩ := info_parts infoPr
  have HI := hid (And.intro hi (And.intro hz0 (And.intro hz1 hz2)))
  clear hi hz0 hz1 hz2
  have HBT := hid (show AttrsN ts i at0 → B = true from hB.2)
  have HBF := hid (show ¬ AttrsN ts i at0 → B = false from fun h => by
    cases B with
    | false => rfl
    | true => exact absurd (hB.1 rfl) h)
  have HMEM := hid (fun l x => pair_mem hr l x)
  have HE := hid hF.1
  have CF := hid (fun p wx (hb : Below w.heap.size w wx) (hp : p.size ≤ 1048576) => hF.2 p wx hb hp)
  have HLK := hid (fun p => meanF_look hr p)
  have HR := hid hR
  have HZ := hid hz
  clear hB hF hr hR hz
  obtain ⟨n, hnn⟩ : ∃ n, at0.length = n := ⟨_, rfl⟩
  have HN := hid hnn
  rw [hnn] at hn ⊢
  clear hnn
  go_enter Tryz.func85, Tryz.ntmps85
  go_wp2_with fail
  go_loopw [5, 15] (fun v5 v15 wr => ∃ (j : Nat) (a8 : Option Addr) (c8 : Nat) (ps : List (ByteArray × ByteArray)), v15 = .int .i64 (j : Int) ∧ j ≤ n ∧ v5 = .slice a8 ps.length c8 ∧ ps.length ≤ j ∧ Hid (ps = pairsN ts i (at0.take j) ∧ AttrsN ts i (at0.take j)) ∧ Hid (wr.ownsRow w.heap.size 145 2 (.slice a8 ps.length c8) ps.length (prC ps)) ∧ Hid (Below w.heap.size w wr)) (fun _ v15 _ => n - (intOf v15).toNat)
  case atStart => exact ⟨0, none, 0, [], rfl, Nat.zero_le _, rfl, Nat.zero_le _, ⟨rfl, by rw [List.take_zero]; exact attrsN_nil.1⟩, World.ownsRow_nil _ _ _ _, Below.refl _ _⟩
  case round =>
    obtain ⟨j, a8, c8, ps, rfl, hj, rfl, hps, HK, HO, HB⟩ := hrel
    by_cases hjl : j < n
    · have hjt : j < at0.length := by rw [HN.out]; exact hjl
      have hjn : (j : Int) < (n : Int) := by omega
      obtain ⟨b, o, rfl, hb, c1, c2⟩ := (HR.out.below HB.out) j hjt
      have HS := hid (HZ.out _ (List.getElem_mem hjt))
      have HTS := hid (take_snocN hjt)
      obtain ⟨y, hy⟩ : ∃ y, at0[j] = y := ⟨_, rfl⟩
      rw [hy] at c1 c2 HS HTS
      clear hy
      have HNT := hid (show ¬ AttrsN ts i (at0.take j ++ [y]) → B = false from fun h => HBF.out (fun ha => h (by rw [← HTS.out]; exact attrsN_take (j + 1) ha)))
      have CP := hid (fun wx => cPartsI y.name wx HS.out.1)
      have hcn := cntB_is y
      have HPN := hid (show pairN ts i y = ((meanF ts i (preS y.name)).getD ⟨#[]⟩, locS y.name) from rfl)
      have CM := hid (fun wx (hb : Below w.heap.size w wx) => CF.out (preS y.name) wx hb (preS_sz HS.out.1))
      rw [← HLK.out] at CM
      have HMI := hid (fun (h : cntB y = true) (q : (meanF ts i (preS y.name)).isSome = false) => HNT.out (attrsN_bad h (.inl q)))
      have HMK := hid (fun (h : cntB y = true) (q : pairN ts i y ∈ ps) => HNT.out (attrsN_bad h (.inr ((HMEM.out _ _).2 (by rw [← HK.out.1]; exact q)))))
      have HMO := hid (fun (h : cntB y = true) (q : (meanF ts i (preS y.name)).isSome = true) (q2 : ¬ pairN ts i y ∈ ps) => (attrsN_more HK.out.2 h q (fun h3 => q2 (by rw [HK.out.1]; exact (HMEM.out _ _).1 h3))).1)
      have EP := empty_is (preS y.name)
      have EN := ns_beq (preS y.name)
      have he := HE.out (preS y.name)
      obtain ⟨M, hM⟩ : ∃ M, (meanF ts i (preS y.name)).getD ⟨#[]⟩ = M := ⟨_, rfl⟩
      obtain ⟨I, hI⟩ : ∃ I, (meanF ts i (preS y.name)).isSome = I := ⟨_, rfl⟩
      rw [hM] at CM HPN
      rw [hI] at CM HMI HMO
      obtain ⟨P, hP⟩ : ∃ P, preS y.name = P := ⟨_, rfl⟩
      obtain ⟨L, hL⟩ : ∃ L, locS y.name = L := ⟨_, rfl⟩
      rw [hP] at CP CM EP EN he hcn
      rw [hL] at CP HPN
      rw [HPN.out] at HMK HMO
      clear hM hI hP hL HMEM HLK
      have HBX := hid (HB.out.alloc HB.out.size (.cells #[.string y.name, .string y.value] 62))
      have HO1 := hid (HO.out.alloc (.cells #[.string y.name, .string y.value] 62))
      obtain ⟨nk, hnk⟩ : ∃ nk, ps.length = nk := ⟨_, rfl⟩
      have HNK := hid hnk
      rw [hnk] at hps HO1 ⊢
      clear hnk HO
      obtain ⟨nm, hnm⟩ : ∃ nm, y.name = nm := ⟨_, rfl⟩
      obtain ⟨vl, hvl⟩ : ∃ vl, y.value = vl := ⟨_, rfl⟩
      rw [hnm] at c1 CP HBX HO1
      rw [hvl] at c2 HBX HO1
      clear hnm hvl
      go_wp2_with fail
      refine (CP.out _).mono ?_
      rintro e w1 ⟨rfl, hb1⟩
      have HB1 := hid (bb HBX.out hb1)
      have HO2 := hid (ownsRow_below HO1.out hb1)
      clear hb1 HBX CP c1 c2 HO1 hb HB
      by_cases h0 : P.size = 0
      · rw [decide_eq_true h0] at EP hcn
        have HC := hid (show cntB y = false from hcn)
        have HS2 := hid (attrsN_skip HK.out.2 HC.out)
        have HS3 := hid (pairsN_skip (ts := ts) (i := i) (l := at0.take j) HC.out)
        rw [← HTS.out] at HS2 HS3
        clear hcn h0 he EN
        go_wp2_with fail
        go_roundw
        case rel => exact ⟨j + 1, a8, c8, ps, by go_num, by omega, by rw [HNK.out], by rw [HNK.out]; omega, ⟨by rw [HS3.out]; exact HK.out.1, HS2.out.1⟩, by rw [HNK.out]; exact HO2.out, HB1.out⟩
        case measure => simp [intOf]; omega
      · rw [decide_eq_false h0] at EP hcn
        by_cases h1 : P = nsS
        · rw [decide_eq_true h1] at EN hcn
          have HC := hid (show cntB y = false from hcn)
          have HS2 := hid (attrsN_skip HK.out.2 HC.out)
          have HS3 := hid (pairsN_skip (ts := ts) (i := i) (l := at0.take j) HC.out)
          rw [← HTS.out] at HS2 HS3
          clear hcn h0 h1 he
          go_wp2_with fail
          go_roundw
          case rel => exact ⟨j + 1, a8, c8, ps, by go_num, by omega, by rw [HNK.out], by rw [HNK.out]; omega, ⟨by rw [HS3.out]; exact HK.out.1, HS2.out.1⟩, by rw [HNK.out]; exact HO2.out, HB1.out⟩
          case measure => simp [intOf]; omega
        · rw [decide_eq_false h1] at EN hcn
          have HC := hid (show cntB y = true from hcn)
          clear hcn h0 h1
          go_wp2_with fail
          refine (CM.out _ HB1.out).mono ?_
          rintro e w2 ⟨rfl, hb2⟩
          have HB2 := hid (bb HB1.out hb2)
          have HO3 := hid (ownsRow_below HO2.out hb2)
          clear hb2 CM HO2 HB1 he
          have HBY := hid (HB2.out.alloc HB2.out.size (.cells #[.string M, .string L] 145))
          have HO4 := hid (HO3.out.alloc (.cells #[.string M, .string L] 145))
          have HBOX := hid (box_two w2 (.string M) (.string L) 145)
          cases I with
          | false =>
            have HV := hid (HMI.out HC.out rfl)
            go_wp2_with fail
            go_ret
            exact ⟨by rw [HV.out]; rfl, HBY.out⟩
          | true =>
            have CC := hid (cContainsP a8 c8 ps M L (w2.alloc (.cells #[.string M, .string L] 145)) (PrRow.of (by rw [HNK.out]; exact HO4.out)) (by rw [HNK.out]; omega))
            rw [HNK.out] at CC
            obtain ⟨H, hH⟩ : ∃ H, hasP ps (M, L) = H := ⟨_, rfl⟩
            have HH := hid hH
            rw [hH] at CC
            clear hH
            go_wp2_with fail
            refine CC.out.mono ?_
            rintro e w3 ⟨rfl, hb3⟩
            have HB3 := hid (bb HBY.out hb3)
            have HO5 := hid (ownsRow_below HO4.out hb3)
            have d1 := (hb3.cell (p := ⟨w2.heap.size, 0, none⟩) HBOX.out.2.2).trans HBOX.out.1
            have d2 := (hb3.cell (p := ⟨w2.heap.size, 1, none⟩) HBOX.out.2.2).trans HBOX.out.2.1
            clear hb3 CC HO4 HBY HBOX HB2 HO3
            cases H with
            | true =>
              have HV := hid (HMK.out HC.out (by
                have h := HH.out
                unfold hasP at h
                simpa using h))
              go_wp2_with fail
              go_ret
              exact ⟨by rw [HV.out]; rfl, HB3.out⟩
            | false =>
              have HS2 := hid (HMO.out HC.out (by first | rfl | trivial) (by
                have h := HH.out
                unfold hasP at h
                simpa using h))
              have HS3 := hid (pairsN_more (ts := ts) (i := i) (l := at0.take j) HC.out)
              rw [← HTS.out] at HS2 HS3
              rw [HPN.out, ← HK.out.1] at HS3
              have hsz := HB3.out.size
              go_wp2_with (at_builtin; refine wpList_append_own _ rfl _ _ 143 rfl w.heap.size 145 i0 (.agg #[.string ⟨#[]⟩, .string ⟨#[]⟩]) 2 32 Tryz.underlying143 HI.out.1 HI.out.2.1 HI.out.2.2.1 HI.out.2.2.2 rfl (by decide) _ _ _ rfl (HO5.out.alloc _) ⟨w3.heap.size, 0, none⟩ 1 1 [.string M, .string L] rfl rfl (two_cell _ _ _ _) (two_str _ _) (by unfold maxLen; omega) (by omega) (by simp; omega) ?_)
              intro v' w7 hown' hgrow _
              have HB7 := hid ((HB3.out.alloc hsz _).grown hgrow (by simp; omega) (fun k hk => (HO5.out.lt k hk).1))
              rw [← HNK.out] at hown'
              obtain ⟨a9, c9, rfl, ho9⟩ := prs_more (q := (M, L)) hown'
              have HO9 := hid ho9
              clear hown' hgrow ho9
              have HL9 := hid (show (ps ++ [(M, L)]).length ≤ j + 1 by rw [List.length_append, HNK.out]; show _ + 1 ≤ _; omega)
              generalize ps ++ [(M, L)] = ps9 at *
              go_wp2_with fail
              go_roundw
              case rel => exact ⟨j + 1, a9, c9, ps9, by go_num, by omega, rfl, HL9.out, ⟨HS3.out.symm, HS2.out⟩, HO9.out, HB7.out⟩
              case measure => simp [intOf]; omega
    · have HV := hid (HBT.out (by
        have h := HK.out.2
        rw [List.take_of_length_le (by rw [HN.out]; omega)] at h
        exact h))
      have hjn : j = n := by omega
      subst hjn
      generalize ps.length = nk at *
      go_wp2_with fail
      go_ret
      exact ⟨by rw [HV.out]; rfl, HB.out⟩

theorem box_four (w : World) (x y z u : Value) (T : TypeId) : (w.alloc (.cells #[x, y, z, u] T)).cell? ⟨w.heap.size, 0, none⟩ = some x ∧ (w.alloc (.cells #[x, y, z, u] T)).cell? ⟨w.heap.size, 1, none⟩ = some y
    ∧ (w.alloc (.cells #[x, y, z, u] T)).cell? ⟨w.heap.size, 2, none⟩ = some z ∧ (w.alloc (.cells #[x, y, z, u] T)).cell? ⟨w.heap.size, 3, none⟩ = some u ∧ w.heap.size < (w.alloc (.cells #[x, y, z, u] T)).heap.size := by
  refine ⟨?_, ?_, ?_, ?_, by simp⟩
  all_goals (rw [Lib.cell_of_heap (heap_alloc_new w _)]; rfl)

set_option maxRecDepth 4000 in
set_option maxHeartbeats 4000000 in
theorem cElementNames (t : Tk) (aa : Option Addr) (ca : Nat) (F : FuncId) (C : Array Value) (ts : List Tk) (i : Nat) (w : World) (B : Bool) (hB : B = true ↔ ((meanF ts i (preS t.name)).isSome = true ∧ ¬ preS t.name = nsS ∧ AttrsN ts i t.attrs)) (hF : Asks F C w (outAts ts i)) (hr : (outAts ts i).all rightB = true) (hR : AtRow w aa t.attrs) (hz : TkSz 1048576 t) :
    Calls Tryz.prog 50 #[.agg #[.int .i64 t.kind, .string t.name, .slice aa t.attrs.length ca, .string t.text], .func (.func F) #[] C] w fun e w' => e = .returned (.bool B) ∧ Below w.heap.size w w' := by
  have HBA := hid ((Below.refl w.heap.size w).alloc (Nat.le_refl _) (.cells #[.int .i64 t.kind, .string t.name, .slice aa t.attrs.length ca, .string t.text] 44))
  have HBOX := hid (box_four w (.int .i64 t.kind) (.string t.name) (.slice aa t.attrs.length ca) (.string t.text) 44)
  have CP := hid (fun wx => cPartsI t.name wx hz.1)
  have he := hF.1 (preS t.name)
  have CM := hid (fun wx (hb : Below w.heap.size w wx) => hF.2 (preS t.name) wx hb (preS_sz hz.1))
  rw [← meanF_look hr] at CM
  obtain ⟨D, hD⟩ : ∃ D : Bool, D = true ↔ AttrsN ts i t.attrs := by
    by_cases h : AttrsN ts i t.attrs
    · exact ⟨true, ⟨fun _ => h, fun _ => rfl⟩⟩
    · exact ⟨false, ⟨fun h' => (by cases h'), fun h' => absurd h' h⟩⟩
  have CA := hid (fun wx (hb : Below w.heap.size w wx) => cAttrNames aa ca t.attrs F C ts i wx D hD (hF.below hb) hr (hR.below hb) hz.2.2.1 hz.2.1)
  have EN := ns_beq (preS t.name)
  rw [← hD] at hB
  obtain ⟨M, hM⟩ : ∃ M, (meanF ts i (preS t.name)).getD ⟨#[]⟩ = M := ⟨_, rfl⟩
  obtain ⟨I, hI⟩ : ∃ I, (meanF ts i (preS t.name)).isSome = I := ⟨_, rfl⟩
  rw [hM, hI] at CM
  rw [hI] at hB
  clear hM hI hD hF hr hR hz
  generalize preS t.name = P at *
  generalize locS t.name = L at *
  generalize t.name = nm at *
  generalize t.kind = K at *
  generalize t.text = T at *
  generalize t.attrs.length = nA at *
  have HBB := hid hB
  clear hB
  go_enter Tryz.func50, Tryz.ntmps50
  go_wp2_with fail
  refine (CP.out _).mono ?_
  rintro e w1 ⟨rfl, hb1⟩
  have HB1 := hid (bb HBA.out hb1)
  have x2 := hid ((hb1.cell (p := ⟨w.heap.size, 2, none⟩) HBOX.out.2.2.2.2).trans HBOX.out.2.2.1)
  have x5 := hid (Nat.lt_of_lt_of_le HBOX.out.2.2.2.2 hb1.size)
  clear hb1 CP HBOX HBA
  go_wp2_with fail
  refine (CM.out _ HB1.out).mono ?_
  rintro e w2 ⟨rfl, hb2⟩
  have HB2 := hid (bb HB1.out hb2)
  have y2 := (hb2.cell (p := ⟨w.heap.size, 2, none⟩) x5.out).trans x2.out
  clear hb2 CM HB1 x2 x5 he
  cases I with
  | false =>
    have HV := hid (show B = false by
      cases B with
      | false => rfl
      | true => exact absurd (HBB.out.1 rfl).1 (by decide))
    go_wp2_with fail
    go_ret
    exact ⟨by rw [HV.out]; rfl, HB2.out⟩
  | true =>
    by_cases hns : P = nsS
    · rw [decide_eq_true hns] at EN
      have HV := hid (show B = false by
        cases B with
        | false => rfl
        | true => exact absurd hns (HBB.out.1 rfl).2.1)
      clear hns
      go_wp2_with fail
      go_ret
      exact ⟨by rw [HV.out]; rfl, HB2.out⟩
    · rw [decide_eq_false hns] at EN
      have HV := hid (show B = D by
        rw [Bool.eq_iff_iff, HBB.out]
        exact ⟨fun h => h.2.2, fun h => ⟨rfl, hns, h⟩⟩)
      clear hns HBB
      go_wp2_with fail
      refine (CA.out _ HB2.out).mono ?_
      rintro e w3 ⟨rfl, hb3⟩
      have HB3 := hid (bb HB2.out hb3)
      clear hb3 CA
      go_wp2_with fail
      go_ret
      exact ⟨by rw [HV.out]; rfl, HB3.out⟩

/-- Without right declarations nothing has a meaning. -/
theorem meanF_not {ts : List Tk} {i : Nat} (h : (outAts ts i).all rightB = false) (p : ByteArray) : meanF ts i p = none := by
  rw [meanF_out]
  exact meanL_not p h

set_option maxRecDepth 4000 in
set_option maxHeartbeats 8000000 in
theorem cNamesOkI (a : Option Addr) (cap : Nat) (ts : List Tk) (w : World) (hR : TkRow w a ts) (hn : ts.length ≤ 1048576) (hz : TksSz 1048576 ts) :
    Calls Tryz.prog 22 #[.slice a ts.length cap] w fun e w' => e = .returned (.bool (namesB ts)) ∧ Below w.heap.size w w' := by
  obtain ⟨V, hV⟩ : ∃ V, namesB ts = V := ⟨_, rfl⟩
  have HF : Hid (¬ NamesP ts → V = false) := fun h => by rw [← hV]; exact namesB_f h
  have HT : Hid (NamesP ts → V = true) := fun h => by rw [← hV]; exact namesB_t h
  rw [hV]
  clear hV
  have C := hid (cTreeOkI a cap ts w hR hn hz)
  by_cases hT : TreeP ts
  case neg =>
    rw [treeB_f hT] at C
    have HV := hid (HF.out (fun h => hT h.1))
    clear hR hz hT HF HT
    generalize ts.length = n at *
    go_enter Tryz.func22, Tryz.ntmps22
    go_wp2_with fail
    refine C.out.mono ?_
    rintro e w1 ⟨rfl, hb1⟩
    have HB1 := hid hb1
    clear hb1 C
    go_wp2_with fail
    go_ret
    exact ⟨by rw [HV.out]; rfl, HB1.out⟩
  rw [treeB_t hT] at C
  have HR := hid hR
  have HZ := hid hz
  have HTP := hid hT
  have hn50 : ts.length ≤ 50 := hT.2.1
  have CL := hid (fun (i : Nat) (h : i < ts.length) wx (hb : Below w.heap.size w wx) => cLookupAt a cap ts i wx (hR.below hb) hT h hn hz)
  obtain ⟨b, o, _, _, ea, -⟩ := hR 0 hT.1
  subst ea
  obtain ⟨n, hnn⟩ : ∃ n, ts.length = n := ⟨_, rfl⟩
  have HN := hid hnn
  rw [hnn] at hn hn50 C CL ⊢
  clear hnn hR hz hT
  go_enter Tryz.func22, Tryz.ntmps22
  go_wp2_with fail
  refine C.out.mono ?_
  rintro e w1 ⟨rfl, hb1⟩
  have HB1 := hid hb1
  clear hb1 C
  go_wp2_with fail
  go_loopw [12] (fun v3 wr => ∃ i : Nat, v3 = .int .i64 (i : Int) ∧ i ≤ n ∧ Hid (∀ j t, j < i → ts[j]? = some t → ElemN ts j t) ∧ Hid (Below w.heap.size w wr)) (fun v3 _ => n - (intOf v3).toNat)
  case atStart => exact ⟨0, rfl, Nat.zero_le _, fun j t h => by omega, HB1.out⟩
  case round =>
    clear HB1
    obtain ⟨i, rfl, hi, HA, HB⟩ := hrel
    by_cases hlt : i < n
    · have his : i < ts.length := by rw [HN.out]; exact hlt
      have hin : (i : Int) < (n : Int) := by omega
      have hti : ts[i]? = some ts[i] := List.getElem?_eq_getElem his
      have HZT := hid (HZ.out _ (List.getElem_mem his))
      have HROW := hid (fun wx (hb : Below w.heap.size w wx) => (HR.out.below hb) i his)
      obtain ⟨t, ht⟩ : ∃ t, ts[i] = t := ⟨_, rfl⟩
      rw [ht] at hti HZT HROW
      have HTI := hid hti
      have HBAD := hid (show ¬ ElemN ts i t → V = false from fun h => HF.out (fun hp => h (hp.2 i t HTI.out)))
      have HNX := hid (show ElemN ts i t → ∀ j t', j < i + 1 → ts[j]? = some t' → ElemN ts j t' from fun h j t' hj he => by
        rcases Nat.lt_or_eq_of_le (Nat.le_of_lt_succ hj) with h' | h'
        · exact HA.out j t' h' he
        · subst h'
          rw [HTI.out] at he
          cases he
          exact h)
      clear hti ht HA his
      have CL1 := hid (CL.out i hlt)
      have CI := hid (fun wx aa nA ca => cIsText t.kind t.name aa nA ca t.text wx HZT.out.1)
      obtain ⟨b', o', aa, ca, e', hb, q0, q1, q2, q3, hA⟩ := HROW.out _ HB.out
      obtain ⟨rfl, rfl⟩ : b = b' ∧ o = o' := by cases e'; exact ⟨rfl, rfl⟩
      have HAT := hid hA
      clear e' hA
      have HBX := hid (HB.out.alloc HB.out.size (.cells #[.int .i64 t.kind, .string t.name, .slice aa t.attrs.length ca, .string t.text] 44))
      have HBL := hid ((Below.refl wr.heap.size wr).alloc (Nat.le_refl _) (.cells #[.int .i64 t.kind, .string t.name, .slice aa t.attrs.length ca, .string t.text] 44))
      have HBOX := hid (box_four wr (.int .i64 t.kind) (.string t.name) (.slice aa t.attrs.length ca) (.string t.text) 44)
      obtain ⟨B, hBB⟩ : ∃ B : Bool, B = true ↔ ((meanF ts i (preS t.name)).isSome = true ∧ ¬ preS t.name = nsS ∧ AttrsN ts i t.attrs) := by
        by_cases h : ((meanF ts i (preS t.name)).isSome = true ∧ ¬ preS t.name = nsS ∧ AttrsN ts i t.attrs)
        · exact ⟨true, ⟨fun _ => h, fun _ => rfl⟩⟩
        · exact ⟨false, ⟨fun h' => (by cases h'), fun h' => absurd h' h⟩⟩
      have CE := hid (fun F C wx (hw : Below wr.heap.size wr wx) hF hr => cElementNames t aa ca F C ts i wx B hBB hF hr (HAT.out.below hw) HZT.out)
      have HB0 := hid (show ¬ t.name.size = 0 → (outAts ts i).all rightB = false → V = false from fun h0 h => HBAD.out (fun he => by
        rcases he with h' | ⟨h', _⟩
        · exact h0 h'
        · rw [meanF_not h] at h'; cases h'))
      have HBF := hid (show ¬ t.name.size = 0 → B = false → V = false from fun h0 h => HBAD.out (fun he => by
        rcases he with h' | h'
        · exact h0 h'
        · rw [hBB.2 h'] at h; cases h))
      have HBT := hid (show B = true → ElemN ts i t from fun h => .inr (hBB.1 h))
      have HTX := hid (show t.name.size = 0 → ElemN ts i t from fun h => .inl h)
      clear hBB HAT
      obtain ⟨A0, hA0⟩ : ∃ A0, (outAts ts i).all rightB = A0 := ⟨_, rfl⟩
      rw [hA0] at CL1 HB0
      have HA0 := hid hA0
      clear hA0
      obtain ⟨nA, hnA⟩ : ∃ nA, t.attrs.length = nA := ⟨_, rfl⟩
      rw [hnA] at q2 HBX HBL HBOX CE
      clear hnA
      obtain ⟨D, hD⟩ : ∃ D : Bool, decide (t.name.size = 0) = D := ⟨_, rfl⟩
      have HD := hid hD
      rw [hD] at CI
      clear hD
      obtain ⟨nm, hnm⟩ : ∃ nm, t.name = nm := ⟨_, rfl⟩
      rw [hnm] at q1 HBX HBL HBOX CE CI HB0 HBF HTX HD
      obtain ⟨K, hK⟩ : ∃ K, t.kind = K := ⟨_, rfl⟩
      rw [hK] at q0 HBX HBL HBOX CE CI
      obtain ⟨X, hX⟩ : ∃ X, t.text = X := ⟨_, rfl⟩
      rw [hX] at q3 HBX HBL HBOX CE CI
      clear hnm hK hX
      go_wp2_with fail
      refine (CI.out _ _ _ _).mono ?_
      rintro e w2 ⟨rfl, hb2⟩
      have HB2 := hid (bb HBX.out hb2)
      have HL2 := hid (bb HBL.out hb2)
      have k0 := hid ((hb2.cell (p := ⟨wr.heap.size, 0, none⟩) HBOX.out.2.2.2.2).trans HBOX.out.1)
      have k1 := hid ((hb2.cell (p := ⟨wr.heap.size, 1, none⟩) HBOX.out.2.2.2.2).trans HBOX.out.2.1)
      have k2 := hid ((hb2.cell (p := ⟨wr.heap.size, 2, none⟩) HBOX.out.2.2.2.2).trans HBOX.out.2.2.1)
      have k3 := hid ((hb2.cell (p := ⟨wr.heap.size, 3, none⟩) HBOX.out.2.2.2.2).trans HBOX.out.2.2.2.1)
      have k4 := hid (Nat.lt_of_lt_of_le HBOX.out.2.2.2.2 hb2.size)
      clear hb2 CI HBOX HBX HBL q0 q1 q2 q3 hb
      cases D with
      | true =>
        have HN2 := hid (HNX.out (HTX.out (of_decide_eq_true HD.out)))
        go_wp2_with fail
        go_roundw
        case rel => exact ⟨i + 1, by go_num, by omega, HN2.out, HB2.out⟩
        case measure => simp [intOf]; omega
      | false =>
        have H0 := hid (of_decide_eq_false HD.out)
        go_wp2_with fail
        refine (CL1.out _ HB2.out).mono ?_
        rintro e w3 ⟨v, rfl, hv, hb3⟩
        have HB3 := hid (bb HB2.out hb3)
        have HL3 := hid (bb HL2.out hb3)
        have HVV := hid hv
        have m0 := (hb3.cell (p := ⟨wr.heap.size, 0, none⟩) k4.out).trans k0.out
        have m1 := (hb3.cell (p := ⟨wr.heap.size, 1, none⟩) k4.out).trans k1.out
        have m2 := (hb3.cell (p := ⟨wr.heap.size, 2, none⟩) k4.out).trans k2.out
        have m3 := (hb3.cell (p := ⟨wr.heap.size, 3, none⟩) k4.out).trans k3.out
        clear hb3 hv CL1 k0 k1 k2 k3 k4 HB2 HL2 HB
        cases A0 with
        | false =>
          have HV := hid (HB0.out H0.out rfl)
          go_wp2_with fail
          go_ret
          exact ⟨by rw [HV.out]; rfl, HB3.out⟩
        | true =>
          obtain ⟨F, C, rfl, hF⟩ := HVV.out rfl
          have CE1 := hid (CE.out F C _ HL3.out hF HA0.out)
          clear hF HVV CE
          go_wp2_with fail
          refine CE1.out.mono ?_
          rintro e w4 ⟨rfl, hb4⟩
          have HB4 := hid (bb HB3.out hb4)
          clear hb4 CE1 m0 m1 m2 m3
          cases B with
          | false =>
            have HV := hid (HBF.out H0.out rfl)
            go_wp2_with fail
            go_ret
            exact ⟨by rw [HV.out]; rfl, HB4.out⟩
          | true =>
            have HN2 := hid (HNX.out (HBT.out rfl))
            go_wp2_with fail
            go_roundw
            case rel => exact ⟨i + 1, by go_num, by omega, HN2.out, HB4.out⟩
            case measure => simp [intOf]; omega
    · have HV := hid (HT.out ⟨HTP.out, fun j t he => HA.out j t (by
        have h1 : j < ts.length := by
          rcases Nat.lt_or_ge j ts.length with h' | h'
          · exact h'
          · rw [List.getElem?_eq_none h'] at he; cases he
        have := HN.out
        omega) he⟩)
      have hie : i = n := by omega
      subst hie
      go_wp2_with fail
      go_ret
      exact ⟨by rw [HV.out]; rfl, HB.out⟩

end Go.Proofs.YtkejmifkjgpdjaaGreat

namespace Go.Proofs.YtkejmifkjgpdjaaGreat
open Go.RowKit
set_option linter.unusedVariables false
set_option linter.unusedSimpArgs false

theorem id_beq (s : ByteArray) : (s.toList == [73, 100]) = decide (s = idS) := by
  rw [← str_beq]
  have e : idS.toList = [73, 100] := by rw [ByteArray.toList_eq]; rfl
  rw [e]

set_option maxRecDepth 8000 in
set_option maxHeartbeats 8000000 in
theorem cIdAtI (a : Option Addr) (cap : Nat) (ts : List Tk) (id : ByteArray) (w : World) (hR : TkRow w a ts) (hT : TreeP ts) (hn : ts.length ≤ 1048576) (hz : TksSz 1048576 ts) :
    Calls Tryz.prog 53 #[.slice a ts.length cap, .string id] w fun e w' => e = .returned (.int .i64 (findN ts id ts.length)) ∧ Below w.heap.size w w' := by
  have HR := hid hR
  have HZ := hid hz
  have HT := hid hT
  obtain ⟨V, hV⟩ : ∃ V, findN ts id ts.length = V := ⟨_, rfl⟩
  have HV := hid hV
  rw [hV]
  clear hR hz hT hV
  obtain ⟨n, hnn⟩ : ∃ n, ts.length = n := ⟨_, rfl⟩
  have HN := hid hnn
  rw [hnn] at hn HV ⊢
  clear hnn
  go_enter Tryz.func53, Tryz.ntmps53
  go_wp2_with fail
  go_step3
  go_wp2_with fail
  go_step3
  go_wp2_with fail
  go_loopg [5, 12] n (fun g s5 s12 wx => ∃ k : Nat, k + g = n ∧ s12 = .int .i64 (k : Int) ∧ s5 = .int .i64 (-1) ∧ Hid (∀ j, j < k → ¬ idAt ts j = some id) ∧ Hid (Below w.heap.size w wx))
  case atStart => exact ⟨0, by omega, rfl, rfl, fun j h => absurd h (Nat.not_lt_zero _), Below.refl _ _⟩
  case round =>
    obtain ⟨k, hkg, rfl, rfl, HA, HB⟩ := hrel
    cases gk with
    | zero =>
      have hke : k = n := by omega
      subst hke
      have HW := hid (show V = -1 by rw [← HV.out]; exact findN_none HA.out)
      go_wp2_with fail
      try rw [Exit.noGoto_ret]
      go_ret
      exact ⟨by rw [HW.out]; rfl, HB.out⟩
    | succ g =>
      have hlt : k < n := by omega
      have hkn : (k : Int) < (n : Int) := by omega
      have hks : k < ts.length := by rw [HN.out]; exact hlt
      obtain ⟨b, o, aa, ca, rfl, hb, q0, q1, q2, q3, hA⟩ := HR.out.below HB.out k hks
      have HAT := hid hA
      have HFW := hid (fun (i : Nat) (hi : i < ts[k].attrs.length) (h1 : ts[k].attrs[i].name = idS) (h2 : ts[k].attrs[i].value = id) => show V = (k : Int) from by
        rw [← HV.out]
        exact findN_at hlt HA.out (by rw [tree_id HT.out hks hi h1, h2]))
      have HBK := hid (fun (h : idAt ts k = some id) => id_tree hks h)
      have HB2 := hid (HB.out.alloc HB.out.size (.cells #[.int .i64 ts[k].kind, .string ts[k].name, .slice aa ts[k].attrs.length ca, .string ts[k].text] 44))
      have HAT2 := hid (HAT.out.below ((Below.refl wr.heap.size wr).alloc (Nat.le_refl _) (.cells #[.int .i64 ts[k].kind, .string ts[k].name, .slice aa ts[k].attrs.length ca, .string ts[k].text] 44)))
      have hla : ts[k].attrs.length ≤ 1048576 := (HZ.out _ (List.getElem_mem hks)).2.1
      generalize ts[k].kind = K at *
      generalize ts[k].name = NM at *
      generalize ts[k].text = TX at *
      generalize ts[k].attrs = L at *
      obtain ⟨na, hna⟩ : ∃ na, L.length = na := ⟨_, rfl⟩
      have HNA := hid hna
      rw [hna] at q2 hla HB2 HAT2
      clear hA hna hks HAT
      obtain ⟨wo, hwo⟩ : ∃ wo, wr.alloc (.cells #[.int .i64 K, .string NM, .slice aa na ca, .string TX] 44) = wo := ⟨_, rfl⟩
      have b2 := (box_four wr (.int .i64 K) (.string NM) (.slice aa na ca) (.string TX) 44).2.2.1
      rw [hwo] at HB2 HAT2 b2
      go_wp2_with fail
      go_loopg [5, 20] na (fun g2 s5 s20 wy => ∃ i : Nat, i + g2 = na ∧ s20 = .int .i64 (i : Int) ∧ s5 = .int .i64 (-1) ∧ Hid (∀ (j : Nat) (hj : j < L.length), j < i → ¬ (L[j].name = idS ∧ L[j].value = id)) ∧ Hid (Below wo.heap.size wo wy))
      case atStart => exact ⟨0, by omega, rfl, rfl, fun j _ h => absurd h (Nat.not_lt_zero _), by rw [← hwo]; exact Below.refl _ _⟩
      case round =>
        obtain ⟨i, hig, rfl, rfl, HO, HBi⟩ := hrel
        have HBw := hid (bb HB2.out HBi.out)
        cases gk with
        | zero =>
          have hie : i = na := by omega
          subst hie
          have HA2 := hid (show ∀ j, j < k + 1 → ¬ idAt ts j = some id from fun j h he => by
            rcases Nat.lt_or_eq_of_le (Nat.le_of_lt_succ h) with h' | rfl
            · exact HA.out j h' he
            · obtain ⟨i, hi, e1, e2⟩ := HBK.out he
              exact HO.out i hi (by rw [← HNA.out]; exact hi) ⟨e1, e2⟩)
          go_wp2_with fail
          go_roundg g
          case measure => omega
          case rel => exact ⟨k + 1, by omega, by go_num, rfl, HA2.out, HBw.out⟩
        | succ g2 =>
          have hil : i < na := by omega
          have hin : (i : Int) < (na : Int) := by omega
          have his : i < L.length := by rw [HNA.out]; exact hil
          obtain ⟨b1, o1, rfl, hb1, c1, c2⟩ := HAT2.out.below HBi.out i his
          have e1 := id_beq L[i].name
          have e2 := str_beq L[i].value id
          have HBx := hid (HBw.out.alloc HBw.out.size (.cells #[.string L[i].name, .string L[i].value] 62))
          have HBy := hid (HBi.out.alloc HBi.out.size (.cells #[.string L[i].name, .string L[i].value] 62))
          by_cases hq : L[i].name = idS ∧ L[i].value = id
          · have HW := hid (HFW.out i his hq.1 hq.2)
            rw [decide_eq_true hq.1] at e1
            rw [decide_eq_true hq.2] at e2
            clear hq
            generalize L[i].name = x at *
            generalize L[i].value = y at *
            go_wp2_with fail
            try rw [Exit.noGoto_ret]
            go_ret
            exact ⟨by rw [HW.out]; rfl, HBx.out⟩
          · have HO2 := hid (show ∀ (j : Nat) (hj : j < L.length), j < i + 1 → ¬ (L[j].name = idS ∧ L[j].value = id) from fun j hj h => by
              rcases Nat.lt_or_eq_of_le (Nat.le_of_lt_succ h) with h' | rfl
              · exact HO.out j hj h'
              · exact hq)
            obtain ⟨B1, hB1⟩ : ∃ B, decide (L[i].name = idS) = B := ⟨_, rfl⟩
            obtain ⟨B2, hB2⟩ : ∃ B, decide (L[i].value = id) = B := ⟨_, rfl⟩
            have HQ := hid (show ¬ (B1 = true ∧ B2 = true) from fun h => hq ⟨of_decide_eq_true (hB1.trans h.1), of_decide_eq_true (hB2.trans h.2)⟩)
            rw [hB1] at e1
            rw [hB2] at e2
            clear hq hB1 hB2
            generalize L[i].name = x at *
            generalize L[i].value = y at *
            cases B1 with
            | false =>
              go_wp2_with fail
              go_roundg g2
              case measure => omega
              case rel => exact ⟨i + 1, by omega, by go_num, rfl, HO2.out, HBy.out⟩
            | true =>
              cases B2 with
              | true => exact absurd ⟨rfl, rfl⟩ HQ.out
              | false =>
                go_wp2_with fail
                go_roundg g2
                case measure => omega
                case rel => exact ⟨i + 1, by omega, by go_num, rfl, HO2.out, HBy.out⟩

end Go.Proofs.YtkejmifkjgpdjaaGreat

namespace Go.Proofs.YtkejmifkjgpdjaaGreat
open Go.RowKit
set_option linter.unusedVariables false
set_option linter.unusedSimpArgs false

end Go.Proofs.YtkejmifkjgpdjaaGreat
