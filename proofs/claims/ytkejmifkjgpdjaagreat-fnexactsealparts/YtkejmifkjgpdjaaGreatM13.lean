/- Contracts of the specification's l9Meaning, l9Element, Meaning, l9Known, Known. An element of a tree: contract of the specification's l9Element. Contracts of the specification's Meaning, l9Known, Known. -/
import Derived.Test.YtkejmifkjgpdjaaGreatM12
import Derived.Test.YtkejmifkjgpdjaaGreatM8
namespace Go.Proofs.YtkejmifkjgpdjaaGreat
open Go.RowKit
set_option linter.unusedVariables false
set_option linter.unusedSimpArgs false

/-- Where one of the chain lies, and who is next. -/
theorem chain_at {ts : List Tk} (hT : TreeP ts) {k : Nat} (hk : k < ts.length) : (∀ m (h : m < (chainF ts (k + 1)).length), (chainF ts (k + 1))[m] < ts.length ∧ parI ts (chainF ts (k + 1))[m] = kAt (chainF ts (k + 1)) (m + 1) ∧ kAt (chainF ts (k + 1)) (m + 1) < ((chainF ts (k + 1))[m] : Int)) ∧ kAt (chainF ts (k + 1)) 0 = (k : Int) := by
  have hL := linked_all k (fun j hj => (hT.2.2.2.2 j (by omega)).2.1)
  refine ⟨fun m h => ?_, rfl⟩
  have l1 := (linked_from hL.1 m h).1 hT.2.2.1
  refine ⟨by have := hL.2 _ (List.getElem_mem h); omega, ?_, ?_⟩
  · rw [l1]
    by_cases h' : m + 1 < (chainF ts (k + 1)).length
    · rw [dif_pos h', kAt_lt h']
    · rw [dif_neg h']
      have : m + 1 = (chainF ts (k + 1)).length := by omega
      rw [this, kAt_end]
  · by_cases h' : m + 1 < (chainF ts (k + 1)).length
    · rw [kAt_lt h']
      have := linked_lt hL.1 m h'
      omega
    · have : m + 1 = (chainF ts (k + 1)).length := by omega
      rw [this, kAt_end]
      omega

/-- One of the chain: what is known of it. -/
theorem chain_step {ts : List Tk} {c : List Nat} (h : ∀ m (h : m < c.length), c[m] < ts.length ∧ parI ts c[m] = kAt c (m + 1) ∧ kAt c (m + 1) < (c[m] : Int)) {m : Nat} (hm : m < c.length) :
    ∃ (x : Nat) (t : Tk), x < ts.length ∧ kAt c m = (x : Int) ∧ t.kind = kAt c (m + 1) ∧ kAt c (m + 1) < (x : Int) ∧ t ∈ ts ∧ upAts ts (c.take (m + 1)) = upAts ts (c.take m) ++ t.attrs ∧ (∀ y ∈ t.attrs, y ∈ upAts ts c) ∧
      ∀ wx a, TkRow wx a ts → ∃ b o aa cap, a = some ⟨b, o, none⟩ ∧ b < wx.heap.size ∧ wx.cell? ⟨b, o + x * 4, none⟩ = some (.int .i64 t.kind) ∧ wx.cell? ⟨b, o + x * 4 + 2, none⟩ = some (.slice aa t.attrs.length cap) ∧ AtRow wx aa t.attrs := by
  obtain ⟨h1, h2, h3⟩ := h m hm
  refine ⟨c[m], ts[c[m]], h1, kAt_lt hm, by rw [← parI_at h1, h2], h3, List.getElem_mem h1, upAts_at hm h1, fun y hy => upAts_mem hm h1 hy, fun wx a hr => ?_⟩
  obtain ⟨b, o, aa, ca, e, hb, q0, q1, q2, q3, q4⟩ := hr c[m] h1
  exact ⟨b, o, aa, ca, e, hb, q0, q2, q4⟩

theorem kAt_ge (c : List Nat) (m : Nat) : -1 ≤ kAt c m := by unfold kAt; split <;> omega

set_option maxRecDepth 4000 in
set_option maxHeartbeats 4000000 in
theorem c_spec_l9Meaning (a : Option Addr) (cap : Nat) (ts : List Tk) (k : Nat) (p : ByteArray) (w : World) (hR : TkRow w a ts) (hT : TreeP ts) (hk : k < ts.length) (hn : ts.length ≤ 1048576) (hz : TksSz 1048576 ts) (hp : p.size ≤ 1048576) :
    Calls Tryz.prog 33 #[.slice a ts.length cap, .int .i64 (k : Int), .string p] w fun e w' => e = .returned (.tuple #[.string ((meanF ts k p).getD ⟨#[]⟩), .bool (meanF ts k p).isSome]) ∧ Below w.heap.size w w' := by
  obtain ⟨V, hV⟩ : ∃ V, meanF ts k p = V := ⟨_, rfl⟩
  have HCH := hid (chain_at hT hk)
  unfold meanF at hV
  rw [show meanF ts k p = V from hV]
  generalize chainF ts (k + 1) = c at *
  have HV := hid hV
  have HR := hid hR
  have HZ := hid hz
  obtain ⟨b, o, _, _, ea, -⟩ := hR k hk
  subst ea
  clear hV hR hz hT
  have E := empty_is p
  have HS := hid (Held.start p)
  generalize decide (p.size = 0) = D at *
  obtain ⟨n, hnn⟩ : ∃ n, ts.length = n := ⟨_, rfl⟩
  have HN := hid hnn
  rw [hnn] at hn hk ⊢
  clear hnn
  go_enter Tryz.func33, Tryz.ntmps33
  go_wp2_with fail
  go_loopw [8, 9, 10, 11] (fun v8 v9 v10 v11 wr => ∃ (m : Nat) (mv : ByteArray) (fo se : Bool), v8 = .string mv ∧ v9 = .bool fo ∧ v10 = .bool se ∧ Hid (v11 = .int .i64 (kAt c m) ∧ m ≤ c.length) ∧ Hid (Held (upAts ts (c.take m)) p mv fo se) ∧ Hid (Below w.heap.size w wr)) (fun _ _ _ v11 _ => (intOf v11 + 1).toNat)
  case atStart => exact ⟨0, ⟨#[]⟩, D, false, rfl, rfl, rfl, ⟨by rw [HCH.out.2], Nat.zero_le _⟩, HS.out, Below.refl _ _⟩
  case round =>
    clear HS E
    obtain ⟨m, mv, fo, se, rfl, rfl, rfl, HM, HH, HB⟩ := hrel
    obtain ⟨rfl, hm⟩ := HM.out
    clear HM
    by_cases hml : m < c.length
    · obtain ⟨x, t, hx, ek, hk2, hlt, hts, hup, hmem, hrow⟩ := chain_step HCH.out.1 hml
      rw [ek]
      have hxn : (x : Int) < (n : Int) := by have := HN.out; omega
      have HU := hid hup
      have HMEM := hid hmem
      have HK := hid (And.intro hlt (kAt_ge c (m + 1)))
      have HML := hid hml
      have HZT := hid (HZ.out _ hts)
      have HTK := hid hk2
      have HROW := hid (fun wx (hb : Below w.heap.size w wx) => hrow wx _ (HR.out.below hb))
      clear hup hmem hlt hml hts hk2 hrow ek hm hx
      obtain ⟨nA, hnA⟩ : ∃ nA, t.attrs.length = nA := ⟨_, rfl⟩
      have HNA := hid hnA
      have hnA1 : nA ≤ 1048576 := by rw [← hnA]; exact HZT.out.2.1
      rw [hnA] at HROW
      clear hnA
      go_wp2_with fail
      go_loopw [8, 9, 10, 12] (fun v8 v9 v10 v12 wr => ∃ (j : Nat) (mv : ByteArray) (fo se : Bool), v8 = .string mv ∧ v9 = .bool fo ∧ v10 = .bool se ∧ v12 = .int .i64 (j : Int) ∧ j ≤ nA ∧ Hid (Held (upAts ts (c.take m) ++ t.attrs.take j) p mv fo se) ∧ Hid (Below w.heap.size w wr)) (fun _ _ _ v12 _ => nA - (intOf v12).toNat)
      case atStart => exact ⟨0, mv, fo, se, rfl, rfl, rfl, rfl, Nat.zero_le _, by rw [List.take_zero, List.append_nil]; exact HH.out, HB.out⟩
      case round =>
        clear HB HH
        obtain ⟨j, mv, fo, se, rfl, rfl, rfl, rfl, hj, HH, HB⟩ := hrel
        obtain ⟨b', o', aa, ca, e', hb, c0, c2, hA⟩ := HROW.out _ HB.out
        obtain ⟨rfl, rfl⟩ : b = b' ∧ o = o' := by cases e'; exact ⟨rfl, rfl⟩
        clear e'
        by_cases hjl : j < nA
        · have hjt : j < t.attrs.length := by rw [HNA.out]; exact hjl
          have hjn : (j : Int) < (nA : Int) := by omega
          obtain ⟨b2, o2, rfl, hb2, e1, e2⟩ := hA j hjt
          have HTS := hid (take_snocN hjt)
          have HMJ := hid (HMEM.out _ (List.getElem_mem hjt))
          have HSZ := hid (HZT.out.2.2.1 _ (List.getElem_mem hjt))
          obtain ⟨y, hy⟩ : ∃ y, t.attrs[j] = y := ⟨_, rfl⟩
          rw [hy] at e1 e2 HTS HMJ HSZ
          have CR := hid (fun wx => c_spec_l9Right y wx HSZ.out.1 HSZ.out.2)
          have CD := hid (fun wx => c_spec_l9Declares y wx HSZ.out.1)
          clear hy c0 hA
          have HBX := hid (HB.out.alloc HB.out.size (.cells #[.string y.name, .string y.value] 62))
          have HBOX := hid (box_two wr (.string y.name) (.string y.value) 62)
          go_wp2_with fail
          refine (CR.out _).mono ?_
          rintro e w1 ⟨rfl, hb1⟩
          have HB1 := hid (bb HBX.out hb1)
          have d1 := (hb1.cell (p := ⟨wr.heap.size, 0, none⟩) HBOX.out.2.2).trans HBOX.out.1
          have d2 := (hb1.cell (p := ⟨wr.heap.size, 1, none⟩) HBOX.out.2.2).trans HBOX.out.2.1
          have HD2 := hid d2
          have HLT := hid (Nat.lt_of_lt_of_le HBOX.out.2.2 hb1.size)
          clear hb1 HBX HBOX CR e1 e2 c2 hb hb2
          cases hr : rightB y with
          | false =>
            have HF := hid (show V = none by rw [← HV.out]; exact mean_wrong HMJ.out hr p)
            clear hr CD
            go_wp2_with fail
            go_ret2
            exact ⟨by rw [HF.out]; rfl, HB1.out⟩
          | true =>
            have HRR := hid hr
            clear hr
            go_wp2_with fail
            refine (CD.out _).mono ?_
            rintro e w2 ⟨rfl, hb2⟩
            have HB2 := hid (bb HB1.out hb2)
            have d3 := (hb2.cell (p := ⟨wr.heap.size, 1, none⟩) HLT.out).trans HD2.out
            clear hb2 CD d1 d2 HD2 HLT HB1
            cases hd : declF y with
            | none =>
              have HN2 := hid (show Held (upAts ts (c.take m) ++ t.attrs.take (j + 1)) p mv fo se by
                rw [HTS.out, ← List.append_assoc]
                exact HH.out.next HRR.out (by unfold declB; rw [hd]; simp))
              clear hd
              go_wp2_with fail
              go_roundw
              case rel => exact ⟨j + 1, mv, fo, se, rfl, rfl, rfl, by go_num, by omega, HN2.out, HB2.out⟩
              case measure => simp [intOf]; omega
            | some q =>
              by_cases hq : q = p
              · have hqq : (q.toList == p.toList) = true := by rw [str_beq]; exact decide_eq_true hq
                have hdb : declB p y = true := by unfold declB; rw [hd, hq]; simp
                cases se with
                | false =>
                  have HN2 := hid (show Held (upAts ts (c.take m) ++ t.attrs.take (j + 1)) p y.value true true by
                    rw [HTS.out, ← List.append_assoc]
                    exact HH.out.hit HRR.out hdb)
                  clear hd hq hdb
                  go_wp2_with fail
                  go_roundw
                  case rel => exact ⟨j + 1, y.value, true, true, rfl, rfl, rfl, by go_num, by omega, HN2.out, HB2.out⟩
                  case measure => simp [intOf]; omega
                | true =>
                  have HN2 := hid (show Held (upAts ts (c.take m) ++ t.attrs.take (j + 1)) p mv fo true by
                    rw [HTS.out, ← List.append_assoc]
                    exact HH.out.next HRR.out (by rw [hdb]; rfl))
                  clear hd hq hdb
                  go_wp2_with fail
                  go_roundw
                  case rel => exact ⟨j + 1, mv, fo, true, rfl, rfl, rfl, by go_num, by omega, HN2.out, HB2.out⟩
                  case measure => simp [intOf]; omega
              · have hqq : (q.toList == p.toList) = false := by rw [str_beq]; exact decide_eq_false hq
                have HN2 := hid (show Held (upAts ts (c.take m) ++ t.attrs.take (j + 1)) p mv fo se by
                  rw [HTS.out, ← List.append_assoc]
                  exact HH.out.next HRR.out (by unfold declB; rw [hd]; simp [hq]))
                clear hd hq
                go_wp2_with fail
                go_roundw
                case rel => exact ⟨j + 1, mv, fo, se, rfl, rfl, rfl, by go_num, by omega, HN2.out, HB2.out⟩
                case measure => simp [intOf]; omega
        · have ha : t.attrs.take j = t.attrs := List.take_of_length_le (by have := HNA.out; omega)
          have hje : j = nA := by omega
          have HH2 := hid (show Held (upAts ts (c.take (m + 1))) p mv fo se by
            rw [HU.out]
            have h := HH.out
            rw [ha] at h
            exact h)
          clear ha
          subst hje
          rw [HTK.out] at c0
          have HKK := hid HK.out
          obtain ⟨K, hK⟩ : ∃ K, kAt c (m + 1) = K := ⟨_, rfl⟩
          have HKE := hid hK
          rw [hK] at c0 HKK
          clear hK hA HK
          go_wp2_with fail
          go_roundw
          case rel => exact ⟨m + 1, mv, fo, se, rfl, rfl, rfl, ⟨by rw [HKE.out], HML.out⟩, HH2.out, HB.out⟩
          case measure => have := HKK.out; simp [intOf]; omega
    · have hme : m = c.length := by omega
      subst hme
      rw [kAt_end]
      have hh := HH.out
      rw [List.take_of_length_le (Nat.le_refl _)] at hh
      obtain ⟨f1, f2⟩ := hh.fin
      rw [HV.out] at f1 f2
      have HF := hid (And.intro f1 f2)
      clear f1 f2 hh HH
      go_wp2_with fail
      go_ret2
      exact ⟨by rw [HF.out.1, HF.out.2]; rfl, HB.out⟩

end Go.Proofs.YtkejmifkjgpdjaaGreat

namespace Go.Proofs.YtkejmifkjgpdjaaGreat
open Go.RowKit
set_option linter.unusedVariables false
set_option linter.unusedSimpArgs false

/-- The name of the one at x. -/
def nameI (ts : List Tk) (k : Nat) : ByteArray := match ts[k]? with | some t => t.name | none => ⟨#[]⟩

theorem nameI_at {ts : List Tk} {k : Nat} (h : k < ts.length) : nameI ts k = ts[k].name := by unfold nameI; rw [List.getElem?_eq_getElem h]

noncomputable def elemB (ts : List Tk) (x : Int) : Bool := hasB ts x && !decide ((nameI ts x.toNat).size = 0)

theorem elemB_t {ts : List Tk} {x : Int} (h : elemB ts x = true) : TreeP ts ∧ ∃ k : Nat, x = k ∧ k < ts.length := by
  unfold elemB at h
  rw [Bool.and_eq_true] at h
  exact hasB_t h.1

theorem name_row {w : World} {a : Option Addr} {ts : List Tk} (h : TkRow w a ts) {k : Nat} (hk : k < ts.length) : ∃ b o, a = some ⟨b, o, none⟩ ∧ w.cell? ⟨b, o + k * 4 + 1, none⟩ = some (.string (nameI ts k)) := by
  obtain ⟨b, o, e, _, h1⟩ := h.kindAt k hk
  exact ⟨b, o, e, by rw [nameI_at hk]; exact h1⟩

theorem name_sz {ts : List Tk} (hz : TksSz 1048576 ts) {k : Nat} (hk : k < ts.length) : (nameI ts k).size ≤ 1048576 := by
  rw [nameI_at hk]
  exact (hz _ (List.getElem_mem hk)).1

end Go.Proofs.YtkejmifkjgpdjaaGreat

namespace Go.Proofs.YtkejmifkjgpdjaaGreat
open Go.RowKit
set_option linter.unusedVariables false
set_option linter.unusedSimpArgs false

noncomputable def meanI (ts : List Tk) (x : Int) (p : ByteArray) : Option ByteArray := if elemB ts x then meanF ts x.toNat p else none

noncomputable def knownN (ts : List Tk) (k : Nat) (l m : ByteArray) : Bool := open Classical in (meanF ts k (preS (nameI ts k))).isSome && decide (locS (nameI ts k) = l) && decide ((meanF ts k (preS (nameI ts k))).getD ⟨#[]⟩ = m)

noncomputable def knownI (ts : List Tk) (x : Int) (l m : ByteArray) : Bool := elemB ts x && knownN ts x.toNat l m

set_option maxHeartbeats 2000000 in
theorem c_spec_l9Known (a : Option Addr) (cap : Nat) (ts : List Tk) (k : Nat) (l m : ByteArray) (w : World) (hR : TkRow w a ts) (hT : TreeP ts) (hk : k < ts.length) (hn : ts.length ≤ 1048576) (hz : TksSz 1048576 ts) :
    Calls Tryz.prog 37 #[.slice a ts.length cap, .int .i64 (k : Int), .string l, .string m] w fun e w' => e = .returned (.bool (knownN ts k l m)) ∧ Below w.heap.size w w' := by
  obtain ⟨b, o, ea, c1⟩ := name_row hR hk
  subst ea
  have hzn := name_sz hz hk
  have CP := hid (cPartsX (nameI ts k) w hzn)
  have hps : (preS (nameI ts k)).size ≤ 1048576 := by
    unfold preS
    rw [size_mk]
    have e : (nameI ts k).data.toList.length = (nameI ts k).size := rfl
    unfold partP
    split
    · have := len_pre (nameI ts k).data.toList
      omega
    · simp
  have CM := hid (fun wx (hb : Below w.heap.size w wx) => c_spec_l9Meaning _ cap ts k (preS (nameI ts k)) wx (hR.below hb) hT hk hn hz hps)
  have h1 := str_beq (locS (nameI ts k)) l
  have h2 := str_beq ((meanF ts k (preS (nameI ts k))).getD ⟨#[]⟩) m
  have hkn : (k : Int) < (ts.length : Int) := by omega
  unfold knownN
  generalize (meanF ts k (preS (nameI ts k))).isSome = I at *
  generalize (meanF ts k (preS (nameI ts k))).getD ⟨#[]⟩ = G at *
  generalize preS (nameI ts k) = P at *
  generalize locS (nameI ts k) = L at *
  generalize nameI ts k = N at *
  clear hR hT hk hz hzn hps
  generalize ts.length = n at *
  have HX1 : ∃ B : Bool, decide (L = l) = B := ⟨_, rfl⟩
  obtain ⟨B1, hB1⟩ := HX1
  obtain ⟨B2, hB2⟩ : ∃ B : Bool, decide (G = m) = B := ⟨_, rfl⟩
  rw [hB1] at h1
  rw [hB2] at h2
  have HQ := hid (And.intro hB1 hB2)
  clear hB1 hB2
  go_enter Tryz.func37, Tryz.ntmps37
  go_wp2_with fail
  refine CP.out.mono ?_
  rintro e w1 ⟨rfl, hb1⟩
  have CM1 := hid (CM.out _ hb1)
  have HB1 := hid hb1
  clear hb1 CP CM c1
  go_wp2_with fail
  refine CM1.out.mono ?_
  rintro e w2 ⟨rfl, hb2⟩
  have HB2 := hid (bb HB1.out hb2)
  clear hb2 CM1
  cases I
  · go_wp2_with fail
    go_ret
    exact ⟨by simp, HB2.out⟩
  · cases B1
    · go_wp2_with fail
      go_ret
      exact ⟨by simp [HQ.out.1], HB2.out⟩
    · go_wp2_with fail
      go_ret
      exact ⟨by simp [HQ.out.1, HQ.out.2], HB2.out⟩

end Go.Proofs.YtkejmifkjgpdjaaGreat
