/- Contract of the specification's NamesOk. Contracts of the draws of a great number below another; the bytes that a draw is made of. The road of FnMeanings. -/
import Derived.Test.YtlghhemmmjahnaaM18
import Derived.Test.YtlghhemmmjahnaaRows
import Derived.Test.YtlghhemmmjahnaaM1
import Derived.Test.YtlghhemmmjahnaaM4
import Derived.Test.YtlghhemmmjahnaaM21
import Derived.OpenShut
import Derived.WalkKit
import Derived.Deep.CutRange
namespace Go.Proofs.Ytlghhemmmjahnaa
open Go.RowKit
set_option linter.unusedVariables false
set_option linter.unusedSimpArgs false

def keyV (ks : List ByteArray) : List Value := ks.map Value.string

theorem key_more {w1 : World} {B : Nat} {v : Value} {ks : List ByteArray} {s : ByteArray} (h : w1.ownsRow B 9 1 v (ks.length + 1) (keyV ks ++ [.string s])) : ∃ a c, v = .slice a (ks ++ [s]).length c ∧ w1.ownsRow B 9 1 (.slice a (ks ++ [s]).length c) (ks ++ [s]).length (keyV (ks ++ [s])) := by
  have e : (ks ++ [s]).length = ks.length + 1 := by rw [List.length_append]; rfl
  have e2 : keyV (ks ++ [s]) = keyV ks ++ [.string s] := by unfold keyV; rw [List.map_append]; rfl
  rw [e, e2]
  rcases h.2 with ⟨rfl, h0⟩ | ⟨g, cap, cur, rfl, h3⟩
  · omega
  · exact ⟨_, _, rfl, h⟩

theorem key_cell {w1 : World} {B : Nat} {a : Option Addr} {c n q : Nat} {ks : List ByteArray} (h : w1.ownsRow B 9 1 (.slice a n c) n (keyV ks)) (hn : ks.length = n) (hq : q < ks.length) : ∃ g, a = some ⟨g, 0, none⟩ ∧ w1.cell? ⟨g, q, none⟩ = some (.string ks[q]) := by
  rcases h.2 with ⟨_, h0⟩ | ⟨g, cap, cur, e, h3⟩
  · omega
  · cases e
    refine ⟨g, rfl, ?_⟩
    rw [World.ownsRow.cellAt h q (by omega)]
    unfold keyV
    rw [List.getElem?_map, List.getElem?_eq_getElem hq]
    rfl

/-- None of these is it. -/
noncomputable def freshB (ks : List ByteArray) (s : ByteArray) : Bool := open Classical in decide (¬ s ∈ ks)

theorem freshB_t {ks : List ByteArray} {s : ByteArray} (h : ¬ s ∈ ks) : freshB ks s = true := by unfold freshB; simp [h]

theorem freshB_f {ks : List ByteArray} {s : ByteArray} (h : s ∈ ks) : freshB ks s = false := by unfold freshB; simp [h]

theorem freshB_next {ks : List ByteArray} {s : ByteArray} {q : Nat} (hq : q < ks.length) : freshB (ks.take (q + 1)) s = (freshB (ks.take q) s && !decide (ks[q] = s)) := by
  have e : s ∈ ks.take (q + 1) ↔ s ∈ ks.take q ∨ s = ks[q] := by rw [take_snocN hq, List.mem_append, List.mem_singleton]
  by_cases h1 : s ∈ ks.take q
  · rw [freshB_f (e.2 (.inl h1)), freshB_f h1]
    rfl
  · rw [freshB_t h1, Bool.true_and]
    by_cases h2 : ks[q] = s
    · rw [freshB_f (e.2 (.inr h2.symm)), decide_eq_true h2]
      rfl
    · rw [freshB_t (fun h => by
        rcases e.1 h with h' | h'
        · exact h1 h'
        · exact h2 h'.symm), decide_eq_false h2]
      rfl

set_option maxRecDepth 4000 in
set_option maxHeartbeats 8000000 in
theorem cNamesOkS (a : Option Addr) (cap : Nat) (ts : List Tk) (w : World) (hR : TkRow w a ts) (hn : ts.length ≤ 1048576) (hz : TksSz 1048576 ts) :
    Calls Try.prog 16 #[.slice a ts.length cap] w fun e w' => e = .returned (.bool (namesB ts)) ∧ Below w.heap.size w w' := by
  obtain ⟨i0, hi, hz0, hz1, hz2⟩ := info_parts info9
  have HI := hid (And.intro hi (And.intro hz0 (And.intro hz1 hz2)))
  clear hi hz0 hz1 hz2
  obtain ⟨V, hV⟩ : ∃ V, namesB ts = V := ⟨_, rfl⟩
  have HF : Hid (¬ NamesP ts → V = false) := fun h => by rw [← hV]; exact namesB_f h
  have HT : Hid (NamesP ts → V = true) := fun h => by rw [← hV]; exact namesB_t h
  rw [hV]
  clear hV
  have C := hid (cTreeOkS a cap ts w hR hn hz)
  by_cases hT : TreeP ts
  case neg =>
    rw [treeB_f hT] at C
    have HV := hid (HF.out (fun h => hT h.1))
    clear hR hz hT HF HT
    generalize ts.length = n at *
    go_enter Try.func16, Try.ntmps16
    go_wp2_with fail
    refine C.out.mono ?_
    rintro e w1 ⟨rfl, hb1⟩
    have HB1 := hid hb1
    clear hb1 C
    go_wp2_with fail
    go_ret
    exact ⟨by rw [HV.out]; rfl, HB1.out⟩
  rw [treeB_t hT] at C
  have HR := hid hR
  have HZ := hid hz
  have HTP := hid hT
  have hn50 : ts.length ≤ 50 := hT.2.1
  have CM := hid (fun (i : Nat) (h : i < ts.length) (p : ByteArray) wx (hb : Below w.heap.size w wx) (hp : p.size ≤ 1048576) => c_spec_l9Meaning a cap ts i p wx (hR.below hb) hT h hn hz hp)
  obtain ⟨b, o, _, _, ea, -⟩ := hR 0 hT.1
  subst ea
  obtain ⟨n, hnn⟩ : ∃ n, ts.length = n := ⟨_, rfl⟩
  have HN := hid hnn
  rw [hnn] at hn hn50 C CM ⊢
  clear hnn hR hz hT
  go_enter Try.func16, Try.ntmps16
  go_wp2_with fail
  refine C.out.mono ?_
  rintro e w1 ⟨rfl, hb1⟩
  have HB1 := hid hb1
  clear hb1 C
  go_wp2_with fail
  go_loopw [3] (fun v3 wr => ∃ i : Nat, v3 = .int .i64 (i : Int) ∧ i ≤ n ∧ Hid (∀ j t, j < i → ts[j]? = some t → ElemN ts j t) ∧ Hid (Below w.heap.size w wr)) (fun v3 _ => n - (intOf v3).toNat)
  case atStart => exact ⟨0, rfl, Nat.zero_le _, fun j t h => by omega, HB1.out⟩
  case round =>
    clear HB1
    obtain ⟨i, rfl, hi, HA, HB⟩ := hrel
    by_cases hlt : i < n
    · have his : i < ts.length := by rw [HN.out]; exact hlt
      have hin : (i : Int) < (n : Int) := by omega
      obtain ⟨t, hts, hti, hrow⟩ := row_at his
      have HZT := hid (HZ.out _ hts)
      have HTI := hid hti
      have HROW := hid (fun wx (hb : Below w.heap.size w wx) => hrow wx _ (HR.out.below hb))
      have HBAD := hid (show ¬ ElemN ts i t → V = false from fun h => HF.out (fun hp => h (hp.2 i t HTI.out)))
      have HNX := hid (show ElemN ts i t → ∀ j t', j < i + 1 → ts[j]? = some t' → ElemN ts j t' from fun h j t' hj he => by
        rcases Nat.lt_or_eq_of_le (Nat.le_of_lt_succ hj) with h' | h'
        · exact HA.out j t' h' he
        · subst h'
          rw [HTI.out] at he
          cases he
          exact h)
      clear hts hti hrow HA
      have CMi := hid (fun p wx hb hp => CM.out i hlt p wx hb hp)
      obtain ⟨nA, hnA⟩ : ∃ nA, t.attrs.length = nA := ⟨_, rfl⟩
      have HNA := hid hnA
      have hnA1 : nA ≤ 1048576 := by rw [← hnA]; exact HZT.out.2.1
      rw [hnA] at HROW
      clear hnA his
      obtain ⟨b', o', aa, ca, e', hb, c1, c2, hA⟩ := HROW.out _ HB.out
      obtain ⟨rfl, rfl⟩ : b = b' ∧ o = o' := by cases e'; exact ⟨rfl, rfl⟩
      clear e' c2 hA hb
      have E := empty_is t.name
      by_cases h0 : t.name.size = 0
      · have HN2 := hid (HNX.out (.inl h0))
        rw [decide_eq_true h0] at E
        clear h0
        generalize t.name = nm at *
        go_wp2_with fail
        go_roundw
        case rel => exact ⟨i + 1, by go_num, by omega, HN2.out, HB.out⟩
        case measure => simp [intOf]; omega
      · have H0 := hid h0
        rw [decide_eq_false h0] at E
        clear h0
        have CP := hid (fun wx => cPartsX t.name wx HZT.out.1)
        have HPS := hid (preS_sz HZT.out.1)
        have hE := ns_beq (preS t.name)
        obtain ⟨P, hP⟩ : ∃ P, preS t.name = P := ⟨_, rfl⟩
        obtain ⟨L, hL⟩ : ∃ L, locS t.name = L := ⟨_, rfl⟩
        have HP := hid hP
        rw [hP] at CP HPS hE
        rw [hL] at CP
        clear hP hL
        obtain ⟨I, hI⟩ : ∃ I, (meanF ts i P).isSome = I := ⟨_, rfl⟩
        have HII := hid hI
        have CM1 := hid (fun wx hb => CMi.out P wx hb HPS.out)
        rw [hI] at CM1
        clear hI
        generalize (meanF ts i P).getD ⟨#[]⟩ = G at CM1
        obtain ⟨nm, hnm⟩ : ∃ nm, t.name = nm := ⟨_, rfl⟩
        rw [hnm] at c1 E CP
        clear hnm
        go_wp2_with fail
        refine (CP.out _).mono ?_
        rintro e w2 ⟨rfl, hb2⟩
        have HB2 := hid (bb HB.out hb2)
        clear hb2 CP c1 E HB
        go_wp2_with fail
        refine (CM1.out _ HB2.out).mono ?_
        rintro e w3 ⟨rfl, hb3⟩
        have HB3 := hid (bb HB2.out hb3)
        clear hb3 CM1 HB2
        cases I with
        | false =>
          have HV := hid (HBAD.out (fun h => by
            rcases h with h | ⟨h, _⟩
            · exact H0.out h
            · rw [HP.out, HII.out] at h; cases h))
          go_wp2_with fail
          go_ret
          exact ⟨by rw [HV.out]; rfl, HB3.out⟩
        | true =>
          by_cases hns : P = nsS
          · rw [decide_eq_true hns] at hE
            have HV := hid (HBAD.out (fun h => by
              rcases h with h | ⟨_, h, _⟩
              · exact H0.out h
              · rw [HP.out] at h; exact h hns))
            clear hns
            go_wp2_with fail
            go_ret
            exact ⟨by rw [HV.out]; rfl, HB3.out⟩
          · rw [decide_eq_false hns] at hE
            have HEL := hid (show AttrsN ts i t.attrs → ElemN ts i t from fun h => .inr ⟨by rw [HP.out]; exact HII.out, by rw [HP.out]; exact hns, h⟩)
            have HNE := hid (show ¬ AttrsN ts i t.attrs → V = false from fun h => HBAD.out (fun he => by
              rcases he with h' | ⟨_, _, h'⟩
              · exact H0.out h'
              · exact h h'))
            clear hns HII HP HBAD
            go_wp2_with fail
            go_loopw [8, 9] (fun v8 v9 wr => ∃ (j : Nat) (a8 : Option Addr) (c8 : Nat) (ks : List ByteArray), v9 = .int .i64 (j : Int) ∧ j ≤ nA ∧ v8 = .slice a8 ks.length c8 ∧ ks.length ≤ j ∧ Hid (ks = keysN ts i (t.attrs.take j) ∧ AttrsN ts i (t.attrs.take j)) ∧ Hid (wr.ownsRow w.heap.size 9 1 (.slice a8 ks.length c8) ks.length (keyV ks)) ∧ Hid (Below w.heap.size w wr)) (fun _ v9 _ => nA - (intOf v9).toNat)
            case atStart => exact ⟨0, _, _, [], rfl, Nat.zero_le _, rfl, Nat.zero_le _, ⟨by rw [List.take_zero]; exact attrsN_nil.2.symm, by rw [List.take_zero]; exact attrsN_nil.1⟩, World.ownsRow_made _ _ _ HB3.out.size (by decide) rfl, HB3.out.alloc HB3.out.size _⟩
            case round =>
              clear HB3
              obtain ⟨j, a8, c8, ks, rfl, hj, rfl, hks, HK, HO, HB⟩ := hrel
              obtain ⟨b', o', aa, ca, e', hb, c1, c2, hA⟩ := HROW.out _ HB.out
              obtain ⟨rfl, rfl⟩ : b = b' ∧ o = o' := by cases e'; exact ⟨rfl, rfl⟩
              clear e' c1 hb
              by_cases hjl : j < nA
              · have hjt : j < t.attrs.length := by rw [HNA.out]; exact hjl
                have hjn : (j : Int) < (nA : Int) := by omega
                obtain ⟨b2, o2, rfl, hb2, e1, e2⟩ := hA j hjt
                have HTS := hid (take_snocN hjt)
                have HSZ := hid (HZT.out.2.2.1 _ (List.getElem_mem hjt))
                obtain ⟨y, hy⟩ : ∃ y, t.attrs[j] = y := ⟨_, rfl⟩
                rw [hy] at e1 e2 HTS HSZ
                have CD := hid (fun wx => c_spec_l9Declares y wx HSZ.out.1)
                have CP := hid (fun wx => cPartsX y.name wx HSZ.out.1)
                have HBX := hid ((Below.refl wr.heap.size wr).alloc (Nat.le_refl _) (.cells #[.string y.name, .string y.value] 38))
                have HBOX := hid (box_two wr (.string y.name) (.string y.value) 38)
                obtain ⟨nk, hnk⟩ : ∃ nk, ks.length = nk := ⟨_, rfl⟩
                have HNK := hid hnk
                rw [hnk] at HO hks ⊢
                clear hy hA hnk
                go_wp2_with fail
                refine (CD.out _).mono ?_
                rintro e w4 ⟨rfl, hb4⟩
                have HR4 := hid (bb HBX.out hb4)
                have d1 := (hb4.cell (p := ⟨wr.heap.size, 0, none⟩) HBOX.out.2.2).trans HBOX.out.1
                clear hb4 HBX HBOX CD e1 e2 c2 hb2
                cases hd : declF y with
                | some q =>
                  have HS := hid (attrsN_skip (ts := ts) (i := i) HK.out.2 (show cntB y = false by unfold cntB; rw [hd]; rfl))
                  rw [← HTS.out] at HS
                  have HO4 := hid (ownsRow_below HO.out HR4.out)
                  have HB4 := hid (bb HB.out HR4.out)
                  clear hd CP d1
                  go_wp2_with fail
                  go_roundw
                  case rel => exact ⟨j + 1, a8, c8, ks, by go_num, by omega, by rw [HNK.out], by rw [HNK.out]; omega, ⟨by rw [HS.out.2]; exact HK.out.1, HS.out.1⟩, by rw [HNK.out]; exact HO4.out, HB4.out⟩
                  case measure => simp [intOf]; omega
                | none =>
                  have HD := hid hd
                  clear hd
                  go_wp2_with fail
                  refine (CP.out _).mono ?_
                  rintro e w5 ⟨rfl, hb5⟩
                  have HR5 := hid (bb HR4.out hb5)
                  clear hb5 CP d1 HR4
                  have HPS := hid (preS_sz HSZ.out.1)
                  have HLS := hid (locS_sz HSZ.out.1)
                  have E1 := empty_is (preS y.name)
                  by_cases h0 : (preS y.name).size = 0
                  · have HS := hid (attrsN_skip (ts := ts) (i := i) HK.out.2 (show cntB y = false by unfold cntB; rw [HD.out, decide_eq_true h0]; rfl))
                    rw [← HTS.out] at HS
                    have HO4 := hid (ownsRow_below HO.out HR5.out)
                    have HB4 := hid (bb HB.out HR5.out)
                    rw [decide_eq_true h0] at E1
                    clear h0 HPS HLS
                    generalize preS y.name = P1 at *
                    generalize locS y.name = L1 at *
                    go_wp2_with fail
                    go_roundw
                    case rel => exact ⟨j + 1, a8, c8, ks, by go_num, by omega, by rw [HNK.out], by rw [HNK.out]; omega, ⟨by rw [HS.out.2]; exact HK.out.1, HS.out.1⟩, by rw [HNK.out]; exact HO4.out, HB4.out⟩
                    case measure => simp [intOf]; omega
                  · have HC := hid (show cntB y = true by unfold cntB; rw [HD.out, decide_eq_false h0]; rfl)
                    rw [decide_eq_false h0] at E1
                    have HB5 := hid (bb HB.out HR5.out)
                    have CM1 := hid (CMi.out (preS y.name) w5 HB5.out HPS.out)
                    have hG := meanF_sz (i := i) HZ.out (preS y.name)
                    have HKY := hid (show keyN ts i y = ((meanF ts i (preS y.name)).getD ⟨#[]⟩ ++ ⟨#[32]⟩) ++ locS y.name from rfl)
                    obtain ⟨I1, hI1⟩ : ∃ I, (meanF ts i (preS y.name)).isSome = I := ⟨_, rfl⟩
                    have HI1 := hid hI1
                    rw [hI1] at CM1
                    clear hI1 h0
                    obtain ⟨G1, hG1⟩ : ∃ G, (meanF ts i (preS y.name)).getD ⟨#[]⟩ = G := ⟨_, rfl⟩
                    rw [hG1] at CM1 hG HKY
                    clear hG1
                    obtain ⟨P1, hP1⟩ : ∃ P, preS y.name = P := ⟨_, rfl⟩
                    rw [hP1] at CM1 E1 ⊢
                    clear hP1
                    have hL1 := HLS.out
                    obtain ⟨L1, hL1e⟩ : ∃ L, locS y.name = L := ⟨_, rfl⟩
                    rw [hL1e] at hL1 HKY ⊢
                    clear hL1e HLS HPS
                    obtain ⟨S1, hS1⟩ : ∃ S, G1 ++ (⟨#[32]⟩ : ByteArray) = S := ⟨_, rfl⟩
                    have hs1 : S1.size = G1.size + 1 := by rw [← hS1, ByteArray.size_append]; rfl
                    have ho1 : ¬ 9223372036854775807 < G1.size + (⟨#[32]⟩ : ByteArray).size := by rw [show (⟨#[32]⟩ : ByteArray).size = 1 from rfl]; omega
                    rw [hS1] at HKY
                    obtain ⟨S2, hS2⟩ : ∃ S, S1 ++ L1 = S := ⟨_, rfl⟩
                    have ho2 : ¬ 9223372036854775807 < S1.size + L1.size := by omega
                    rw [hS2] at HKY
                    go_wp2_with fail
                    refine CM1.out.mono ?_
                    rintro e w6 ⟨rfl, hb6⟩
                    have HR6 := hid (bb HR5.out hb6)
                    have HB6 := hid (bb HB.out HR6.out)
                    have HO6 := hid (ownsRow_below HO.out HR6.out)
                    clear hb6 CM1 HR5 HB5 HO HR6 HB
                    go_wp2_with fail
                    clear hS1 hS2 hs1 ho1 ho2 E1
                    go_loop [16, 18] (fun v16 v18 => ∃ q : Nat, v18 = .int .i64 (q : Int) ∧ q ≤ nk ∧ v16 = .bool (I1 && freshB (ks.take q) S2)) (fun _ v18 => nk - (intOf v18).toNat)
                    case atStart => exact ⟨0, rfl, Nat.zero_le _, by rw [List.take_zero, show freshB [] S2 = true by unfold freshB; simp]; simp⟩
                    case round =>
                      obtain ⟨q, rfl, hq, rfl⟩ := hrel
                      by_cases hql : q < nk
                      · have hqs : q < ks.length := by rw [HNK.out]; exact hql
                        have hqn : (q : Int) < (nk : Int) := by omega
                        have HFN := hid (freshB_next (s := S2) hqs)
                        obtain ⟨g, ea, cq⟩ := key_cell HO6.out HNK.out hqs
                        subst ea
                        have hz := str_beq ks[q] S2
                        generalize ks[q] = kq at *
                        generalize decide (kq = S2) = D at *
                        generalize freshB (ks.take q) S2 = F at *
                        have HFI := hid (show (I1 && (F && !D)) = ((I1 && F) && !D) by rw [Bool.and_assoc])
                        generalize (I1 && F) = B at *
                        cases B
                        · go_wp2_with fail
                          go_round
                          case rel => exact ⟨q + 1, by go_num, by omega, by rw [HFN.out, HFI.out]; rfl⟩
                          case measure => simp [intOf]; omega
                        · go_wp2_with fail
                          go_round
                          case rel => exact ⟨q + 1, by go_num, by omega, by rw [HFN.out, HFI.out]; cases D <;> rfl⟩
                          case measure => simp [intOf]; omega
                      · have hta : ks.take q = ks := List.take_of_length_le (by have := HNK.out; omega)
                        rw [hta]
                        have hqe : q = nk := by omega
                        clear hta
                        subst hqe
                        obtain ⟨B, hB⟩ : ∃ B, (I1 && freshB ks S2) = B := ⟨_, rfl⟩
                        have HBB := hid hB
                        rw [hB]
                        clear hB
                        cases B with
                        | false =>
                          have HV := hid (HNE.out (fun h => by
                            have h2 := attrsN_take (j + 1) h
                            rw [HTS.out] at h2
                            refine attrsN_bad HC.out ?_ h2
                            rw [HI1.out, HKY.out, ← HK.out.1]
                            rcases Bool.and_eq_false_iff.1 HBB.out with h' | h'
                            · exact .inl h'
                            · right
                              unfold freshB at h'
                              simpa using h'))
                          go_wp2_with fail
                          go_ret
                          exact ⟨by rw [HV.out]; rfl, HB6.out⟩
                        | true =>
                          obtain ⟨q1, q2⟩ := Bool.and_eq_true_iff.1 HBB.out
                          have HS := hid (attrsN_more (ts := ts) (i := i) HK.out.2 HC.out (by rw [HI1.out]; exact q1) (by
                            rw [HKY.out, ← HK.out.1]
                            unfold freshB at q2
                            simpa using q2))
                          rw [← HTS.out, HKY.out, ← HK.out.1] at HS
                          have hsz := HB6.out.size
                          clear q1 q2
                          go_wp2_with (at_builtin; refine wpList_append_own _ rfl _ _ 50 rfl w.heap.size 9 i0 (.string ByteArray.empty) 1 16 Try.underlying50 HI.out.1 HI.out.2.1 HI.out.2.2.1 HI.out.2.2.2 rfl (by decide) _ _ _ rfl (HO6.out.alloc _) ⟨w6.heap.size, 0, none⟩ 1 1 [.string S2] rfl rfl (one_cell _ _ _) (one_str _) (by unfold maxLen; omega) (by omega) (by simp; omega) ?_)
                          intro v' w7 hown' hgrow _
                          have HB7 := hid ((HB6.out.alloc hsz _).grown hgrow (by simp; omega) (fun k hk => (HO6.out.lt k hk).1))
                          rw [← HNK.out] at hown'
                          obtain ⟨a9, c9, rfl, ho9⟩ := key_more hown'
                          have HO9 := hid ho9
                          clear hown' hgrow ho9
                          have HL9 := hid (show (ks ++ [S2]).length ≤ j + 1 by rw [List.length_append, HNK.out]; show _ + 1 ≤ _; omega)
                          generalize ks ++ [S2] = ks9 at *
                          go_wp2_with fail
                          go_roundw
                          case rel => exact ⟨j + 1, a9, c9, ks9, by go_num, by omega, rfl, HL9.out, ⟨HS.out.2.symm, HS.out.1⟩, HO9.out, HB7.out⟩
                          case measure => simp [intOf]; omega
              · have HN2 := hid (HNX.out (HEL.out (by
                  have h := HK.out.2
                  rw [List.take_of_length_le (by have := HNA.out; omega)] at h
                  exact h)))
                have hjn : j = nA := by omega
                subst hjn
                clear hA
                generalize ks.length = nk at *
                go_wp2_with fail
                go_roundw
                case rel => exact ⟨i + 1, by go_num, by omega, HN2.out, HB.out⟩
                case measure => simp [intOf]; omega
    · have HV := hid (HT.out ⟨HTP.out, fun j t he => HA.out j t (by
        have h1 : j < ts.length := by
          rcases Nat.lt_or_ge j ts.length with h' | h'
          · exact h'
          · rw [List.getElem?_eq_none h'] at he; cases he
        have := HN.out
        omega) he⟩)
      have hie : i = n := by omega
      subst hie
      go_wp2_with fail
      go_ret
      exact ⟨by rw [HV.out]; rfl, HB.out⟩

end Go.Proofs.Ytlghhemmmjahnaa

namespace Go.Proofs.Ytlghhemmmjahnaa
open Go.RowKit
set_option linter.unusedVariables false
set_option linter.unusedSimpArgs false

theorem code_of {w : World} {a : Option Addr} {len cap : Nat} {zs : List Int}
    (h : (a = none ∧ len = 0 ∧ cap = 0 ∧ zs = []) ∨ ∃ x, a = some x ∧ len ≤ cap ∧ cap ≤ maxLen ∧ zs.length = cap ∧ (∀ i, i < zs.length → w.cell? (x.add i) = some (.int .u8 (zs.getD i 0))) ∧ ∀ n ∈ zs, (Lit.int .u8 n).wf = true) : CodeRow w a len := by
  rcases h with ⟨_, h, _⟩ | ⟨x, rfl, hl, _, hz, hc, _⟩
  · exact .inl h
  · by_cases h0 : len = 0
    · exact .inl h0
    · obtain ⟨cb, co, rfl, hcells⟩ := ints_at hc (by omega)
      refine .inr ⟨cb, co, fun j => zs.getD j 0, rfl, ?_, fun j hj => hcells j (by omega)⟩
      have h1 := hcells 0 (by omega)
      rcases Nat.lt_or_ge cb w.heap.size with h' | h'
      · exact h'
      · simp [World.cell?, Array.getElem?_eq_none h'] at h1

theorem code_below {w w2 : World} {a : Option Addr} {len : Nat} (h : CodeRow w a len) (hb : Below w.heap.size w w2) : CodeRow w2 a len := by
  rcases h with h | ⟨cb, co, z, h1, h2, h3⟩
  · exact .inl h
  · exact .inr ⟨cb, co, z, h1, Nat.lt_of_lt_of_le h2 hb.size, fun j hj => (hb.cell (p := ⟨cb, co + j, none⟩) h2).trans (h3 j hj)⟩

theorem bt {w a b : World} (h : Below w.heap.size w a) (k : Below a.heap.size a b) : Below w.heap.size w b := h.trans (k.mono h.size)

theorem cBig_no (a : Option Addr) (len cap : Nat) (w : World) (h : len ≤ 4096) : Calls Try.prog 7 #[.slice a len cap] w fun e w' => e = .returned (.bool false) ∧ w' = w := by
  have h1 : decide ((4096 : Int) < (len : Int)) = false := by simp; omega
  go_enter Try.func7, Try.ntmps7
  go_wp2
  go_ret
  exact ⟨rfl, rfl⟩

theorem cBig_yes (a : Option Addr) (len cap : Nat) (w : World) (h : ¬ len ≤ 4096) : Calls Try.prog 7 #[.slice a len cap] w fun e w' => e = .returned (.bool true) ∧ w' = w := by
  have h1 : decide ((4096 : Int) < (len : Int)) = true := by simp; omega
  go_enter Try.func7, Try.ntmps7
  go_wp2
  go_ret
  exact ⟨rfl, rfl⟩

theorem four_wrap (x y z u : Int) (hx : 0 ≤ x ∧ x ≤ 255) (hy : 0 ≤ y ∧ y ≤ 255) (hz : 0 ≤ z ∧ z ≤ 255) (hu : 0 ≤ u ∧ u ≤ 255) :
    IntKind.i64.wrap (x * 16777216) = x * 16777216 ∧ IntKind.i64.wrap (y * 65536) = y * 65536 ∧ IntKind.i64.wrap (x * 16777216 + y * 65536) = x * 16777216 + y * 65536 ∧ IntKind.i64.wrap (z * 256) = z * 256
    ∧ IntKind.i64.wrap (x * 16777216 + y * 65536 + z * 256) = x * 16777216 + y * 65536 + z * 256 ∧ IntKind.i64.wrap (x * 16777216 + y * 65536 + z * 256 + u) = x * 16777216 + y * 65536 + z * 256 + u := by
  refine ⟨?_, ?_, ?_, ?_, ?_, ?_⟩ <;> exact IntWalk.i64_in _ (by omega)

theorem mod_nat (s : Int) (n : Nat) (h0 : 0 ≤ s) (hn : 1 ≤ n) : s.tmod (n : Int) = ((s.toNat % n : Nat) : Int) ∧ s % (n : Int) = ((s.toNat % n : Nat) : Int) := by
  obtain ⟨k, rfl⟩ : ∃ k : Nat, s = k := ⟨s.toNat, by omega⟩
  refine ⟨?_, ?_⟩
  · rw [Int.tmod_eq_emod_of_nonneg h0]; simp
  · simp

set_option maxHeartbeats 2000000 in
/-- A number below n, which is greater than 256. -/
theorem cBelowBig (n : Nat) (w0 : World) (a : Option Addr) (len cap b : Nat) (w : World) (hlen : len ≤ 4096) (hcr : CodeRow w0 a len) (hC : Cur w0 a len cap b w) (hn0 : 257 ≤ n) (hn1 : n ≤ 4294967296) :
    Calls Try.prog 23 #[.pointer (some ⟨b, 0, none⟩), .int .i64 n] w fun e w' => ∃ x : Nat, e = .returned (.int .i64 x) ∧ x < n ∧ Cur w0 a len cap b w' ∧ w.grownBy w' (some b) := by
  have HR : Hid (CodeRow w0 a len) := hcr
  have HC : Hid (Cur w0 a len cap b w) := hC
  clear hC hcr
  have hz : ¬ (n : Int) = 0 := by omega
  have d1 : decide ((n : Int) ≤ 0) = false := by simp; omega
  have d2 : decide ((n : Int) ≤ 256) = false := by simp; omega
  go_enter Try.func23, Try.ntmps23
  go_wp2_with fail
  refine (cByte w0 a len cap b _ hlen HR.out HC.out).mono ?_
  rintro e w1 ⟨x, rfl, hx0, hx1, hC1, hg1⟩
  have HC1 : Hid (Cur w0 a len cap b w1) := hC1
  have HG : Hid (w.grownBy w1 (some b)) := hg1
  clear hC1 hg1
  go_wp2_with fail
  refine (cByte w0 a len cap b _ hlen HR.out HC1.out).mono ?_
  rintro e w2 ⟨y, rfl, hy0, hy1, hC2, hg2⟩
  have HC2 : Hid (Cur w0 a len cap b w2) := hC2
  have HG2 : Hid (w.grownBy w2 (some b)) := gtrans HG.out hg2
  clear hC2 hg2
  go_wp2_with fail
  refine (cByte w0 a len cap b _ hlen HR.out HC2.out).mono ?_
  rintro e w3 ⟨z, rfl, hz0, hz1, hC3, hg3⟩
  have HC3 : Hid (Cur w0 a len cap b w3) := hC3
  have HG3 : Hid (w.grownBy w3 (some b)) := gtrans HG2.out hg3
  clear hC3 hg3
  go_wp2_with fail
  refine (cByte w0 a len cap b _ hlen HR.out HC3.out).mono ?_
  rintro e w4 ⟨u, rfl, hu0, hu1, hC4, hg4⟩
  have HC4 : Hid (Cur w0 a len cap b w4) := hC4
  have HG4 : Hid (w.grownBy w4 (some b)) := gtrans HG3.out hg4
  clear hC4 hg4
  obtain ⟨k1, k2, k3, k4, k5, k6⟩ := four_wrap x y z u ⟨hx0, hx1⟩ ⟨hy0, hy1⟩ ⟨hz0, hz1⟩ ⟨hu0, hu1⟩
  obtain ⟨s, hs⟩ : ∃ s : Int, x * 16777216 + y * 65536 + z * 256 + u = s := ⟨_, rfl⟩
  have hs0 : 0 ≤ s := by omega
  rw [hs] at k6
  obtain ⟨m1, m2⟩ := mod_nat s n hs0 (by omega)
  have hlt : s.toNat % n < n := Nat.mod_lt _ (by omega)
  obtain ⟨r, hr⟩ : ∃ r : Nat, s.toNat % n = r := ⟨_, rfl⟩
  rw [hr] at m1 m2 hlt
  clear hx0 hx1 hy0 hy1 hz0 hz1 hu0 hu1 hr
  go_wp2_with fail
  go_ret
  refine ⟨r, ?_, hlt, HC4.out, HG4.out⟩
  first | rfl | (rw [← m2]; rfl) | (rw [← m1]; rfl) | simp [m1, m2]

end Go.Proofs.Ytlghhemmmjahnaa

namespace Go.Proofs.Ytlghhemmmjahnaa
open Go.RowKit
set_option linter.unusedVariables false
set_option linter.unusedSimpArgs false

/-- A row of nodes as cells, and where their attrs lie. -/
theorem rowE {w : World} {b o : Nat} {ts : List Tk} (h : TkRow w (some ⟨b, o, none⟩) ts) : ∀ n, n ≤ ts.length → ∃ es : List Nd.E, es.map (·.t) = ts.take n ∧ (∀ j u, (Nd.cs es)[j]? = some u → w.cell? ((⟨b, o, none⟩ : Addr).add j) = some u) ∧ ∀ e ∈ es, AtRow w e.a e.t.attrs
  | 0, _ => ⟨[], by simp, fun j u hj => by simp [Nd.cs] at hj, fun e he => absurd he List.not_mem_nil⟩
  | n + 1, hn => by
    obtain ⟨es, e1, e2, e3⟩ := rowE h n (by omega)
    obtain ⟨b', o', aa, ca, e, hb, q0, q1, q2, q3, q4⟩ := h n (by omega)
    obtain ⟨rfl, rfl⟩ : b = b' ∧ o = o' := by cases e; exact ⟨rfl, rfl⟩
    have hl : es.length = n := by
      have := congrArg List.length e1
      rw [List.length_map, List.length_take] at this
      omega
    refine ⟨es ++ [⟨ts[n], aa, ca⟩], by rw [List.map_append, e1, take_snocN (by omega)]; rfl, fun j u hj => ?_, fun e he => ?_⟩
    · rw [Nd.cs_app, Nd.cs_one] at hj
      by_cases hlt : j < (Nd.cs es).length
      · rw [List.getElem?_append_left hlt] at hj
        exact e2 j u hj
      · rw [List.getElem?_append_right (by omega)] at hj
        rw [Nd.cs_len, hl] at hj hlt
        rw [add_plainW]
        have h4 : j - n * 4 < 4 := by
          have := (List.getElem?_eq_some_iff.1 hj).1
          exact this
        obtain ⟨d, hd, hd4⟩ : ∃ d, j = n * 4 + d ∧ d < 4 := ⟨j - n * 4, by omega, h4⟩
        subst hd
        rw [show n * 4 + d - n * 4 = d by omega] at hj
        rw [← Nat.add_assoc]
        match d, hd4, hj with
        | 0, _, hj => cases hj; exact q0
        | 1, _, hj => cases hj; exact q1
        | 2, _, hj => cases hj; exact q2
        | 3, _, hj => cases hj; exact q3
    · rcases List.mem_append.1 he with h' | h'
      · exact e3 e h'
      · rw [List.mem_singleton] at h'
        subst h'
        exact q4

/-- A row of one's own, the attrs wherever. -/
theorem tk_own {w : World} {B g cap : Nat} {es : List Nd.E} (h : w.ownsRow B 36 4 (.slice (some ⟨g, 0, none⟩) es.length cap) es.length (Nd.cs es)) (ha : ∀ e ∈ es, AtRow w e.a e.t.attrs) : TkRow w (some ⟨g, 0, none⟩) (es.map (·.t)) := by
  intro j hj
  rw [List.length_map] at hj
  obtain ⟨k0, k1, k2, k3⟩ := Nd.cs_get es j hj
  have hx : ∀ k, k < es.length * 4 → ∀ u, (Nd.cs es)[k]? = some u → w.cell? ⟨g, 0 + k, none⟩ = some u := by
    intro k hk u hu
    rw [Nat.zero_add, World.ownsRow.cellAt h k hk]
    exact hu
  have hg : g < w.heap.size := by
    rcases h.2 with ⟨e, _⟩ | ⟨g', cap', cur, e, hg, hh, _⟩
    · cases e
    · cases e; exact lt_of_heap hh
  rw [List.getElem_map]
  exact ⟨g, 0, es[j].a, es[j].cap, rfl, hg, hx _ (by omega) _ k0, hx _ (by omega) _ k1, hx _ (by omega) _ k2, hx _ (by omega) _ k3, ha _ (List.getElem_mem hj)⟩

theorem at_own {w : World} {B g cap : Nat} {l : List At} (h : w.ownsRow B 38 2 (.slice (some ⟨g, 0, none⟩) l.length cap) l.length (atC l)) : AtRow w (some ⟨g, 0, none⟩) l := by
  intro j hj
  obtain ⟨k0, k1⟩ := atC_get l j hj
  have hg : g < w.heap.size := by
    rcases h.2 with ⟨e, _⟩ | ⟨g', cap', cur, e, hg, hh, _⟩
    · cases e
    · cases e; exact lt_of_heap hh
  refine ⟨g, 0, rfl, hg, ?_, ?_⟩
  · rw [Nat.zero_add, World.ownsRow.cellAt h _ (by omega)]; exact k0
  · rw [Nat.zero_add, World.ownsRow.cellAt h _ (by omega)]; exact k1

/-- append of a row of attrs, of none too, to none. -/
theorem wpL_ats (w : World) {ops : Array Oper} {rest : List Oper} {o : Oper} {a : Act} {Q : Exit → Act → World → Prop} (hgd : o.guard = none) (s x : Operand)
    (ho : o.op = .call { callee := .builtin .append, args := #[s, x], argTypes := #[34, 34] }) (base g : Nat) (hs : a.eval s = .slice (some ⟨g, 0, none⟩) 0 0) (hown : w.ownsRow base 38 2 (.slice (some ⟨g, 0, none⟩) 0 0) 0 [])
    (aa : Option Addr) (l : List At) (n ca : Nat) (hl : l.length = n) (hx : a.eval x = .slice aa n ca) (hR : AtRow w aa l) (hn : n ≤ 1048576) (hb : base ≤ w.heap.size)
    (h : ∀ v' w', w'.ownsRow base 38 2 v' n (atC l) → w.grownBy w' (some g) → wpList Try.prog ops Q rest (a.put o.dst v') w') : wpList Try.prog ops Q (o :: rest) a w := by
  obtain ⟨i0, hi, hz0, hz1, hz2⟩ := info_parts infoAtW
  by_cases h0 : n = 0
  · subst h0
    have : l = [] := List.eq_nil_of_length_eq_zero hl
    subst this
    exact wpL_none w hgd s x 34 38 i0 ho Try.underlying34 hi _ _ _ hs (Nat.le_refl _) aa ca hx (h _ _ hown ⟨rfl, rfl, rfl, Nat.le_refl _, fun _ _ _ => rfl⟩)
  · obtain ⟨b, o', rfl, _⟩ := hR 0 (by omega)
    refine wpList_append_own_at w hgd s x 34 ho base 38 i0 _ 2 32 Try.underlying34 hi hz0 hz1 hz2 rfl (by decide) _ 0 [] hs hown ⟨b, o', none⟩ n ca (atC l) hx (by rw [← hl]; exact atC_len l) (atC_row hR) (atC_one l) (by unfold maxLen; omega) (by omega) hb ?_
    intro v' w' h1 h2 _ _
    rw [Nat.zero_add, List.nil_append] at h1
    exact h v' w' h1 h2

/-- The tree with one attr more, in the row of one's own. -/
theorem tk_more {w : World} {B g cap k n : Nat} {es : List Nd.E} {ts : List Tk} {t : Tk} {x : At} {a9 : Option Addr} {c9 : Nat} (hes : es.map (·.t) = ts) (hn : ts.length = n) (hk : ts[k]? = some t)
    (hO : w.ownsRow B 36 4 (.slice (some ⟨g, 0, none⟩) n cap) n (Nd.cs es))
    (hA : ∀ e ∈ es, AtRow (w.setCell ⟨g, k * 4 + 2, none⟩ (.slice a9 (t.attrs ++ [x]).length c9)) e.a e.t.attrs) (hX : AtRow (w.setCell ⟨g, k * 4 + 2, none⟩ (.slice a9 (t.attrs ++ [x]).length c9)) a9 (t.attrs ++ [x])) :
    TkRow (w.setCell ⟨g, k * 4 + 2, none⟩ (.slice a9 (t.attrs ++ [x]).length c9)) (some ⟨g, 0, none⟩) (moreT ts k t x) := by
  have hel : es.length = n := by rw [← hn, ← hes, List.length_map]
  have hkl : k < es.length := by
    have : k < ts.length := by
      rcases Nat.lt_or_ge k ts.length with h' | h'
      · exact h'
      · rw [List.getElem?_eq_none h'] at hk; cases hk
    omega
  have hkt : es[k].t = t := by
    have : (es.map (·.t))[k]? = some t := by rw [hes]; exact hk
    rw [List.getElem?_map, List.getElem?_eq_getElem hkl] at this
    exact Option.some.inj this
  have h1 := (World.ownsRow.stored hO (k * 4 + 2) (.slice a9 (t.attrs ++ [x]).length c9)).1
  rw [cs_set (es := es) hkl (f := 2) (by decide) (e' := ⟨⟨t.kind, t.name, t.attrs ++ [x], t.text⟩, a9, c9⟩) (by unfold Nd.c1; rw [hkt]; rfl)] at h1
  have e2 : (es.set k ⟨⟨t.kind, t.name, t.attrs ++ [x], t.text⟩, a9, c9⟩).length = n := by rw [List.length_set]; exact hel
  rw [← e2] at h1
  have h2 := tk_own h1 (fun e he => by
    rcases List.mem_or_eq_of_mem_set he with h' | h'
    · exact hA e h'
    · subst h'; exact hX)
  rw [List.map_set, hes] at h2
  exact h2

theorem infoNdW : (Try.prog.info? 36).map (fun i => (i.zero, i.size, i.bytes)) = some (some (.agg #[.int .i64 0, .string ⟨#[]⟩, .slice none 0 0, .string ⟨#[]⟩]), 4, 64) := by kernel_rfl

theorem own_some {w : World} {B n size : Nat} {e : TypeId} {v : Value} {xs : List Value} (h : w.ownsRow B e size v n xs) (hn : 0 < n) : ∃ g c, v = .slice (some ⟨g, 0, none⟩) n c ∧ B ≤ g ∧ g < w.heap.size := by
  rcases h.2 with ⟨_, h0⟩ | ⟨g, cap, cur, e1, hg, hh, _⟩
  · omega
  · exact ⟨g, cap, e1, hg, lt_of_heap hh⟩

theorem made_own (w : World) (B : Nat) (e : TypeId) (size : Nat) (hB : B ≤ w.heap.size) : (w.alloc (.cells #[] e)).ownsRow B e size (.slice (some ⟨w.heap.size, 0, none⟩) 0 0) 0 [] :=
  ⟨by simp, .inr ⟨w.heap.size, 0, #[], rfl, hB, heap_alloc_new _ _, Nat.le_refl _, Nat.zero_le _, by simp, by simp⟩⟩

theorem meanI_some {ts : List Tk} {x : Int} {p : ByteArray} (h : (meanI ts x p).isSome = true) : elemB ts x = true := by
  unfold meanI at h
  split at h
  · rename_i h1; exact h1
  · cases h

theorem elemB_of {ts : List Tk} {k : Nat} (hT : TreeP ts) (he : elN ts k) : elemB ts (k : Int) = true := by
  obtain ⟨hk, hn⟩ := he
  unfold elemB hasB
  rw [treeB_t hT, decide_eq_true (show (0 : Int) ≤ (k : Int) ∧ (k : Int) < (ts.length : Int) from ⟨by omega, by omega⟩)]
  show (true && !decide ((nameI ts k).size = 0)) = true
  rw [nameI_at hk, decide_eq_false hn]
  rfl

theorem elemB_el {ts : List Tk} {k : Nat} (h : elemB ts (k : Int) = true) : TreeP ts ∧ ∃ t, ts[k]? = some t ∧ k < ts.length ∧ ¬ t.name.size = 0 := by
  obtain ⟨hT, k', e, hk⟩ := elemB_t h
  have : k = k' := by omega
  subst this
  refine ⟨hT, ts[k], List.getElem?_eq_getElem hk, hk, ?_⟩
  unfold elemB at h
  rw [Bool.and_eq_true] at h
  have h2 := h.2
  rw [show (k : Int).toNat = k from rfl, nameI_at hk] at h2
  simpa using h2

end Go.Proofs.Ytlghhemmmjahnaa
