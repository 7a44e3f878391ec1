/- NamesOk: what it asks (mathematics alone). Contract of the specification's NamesOk. Digits read: the number that they tell; the program's digitsValue and the specification's l3Digits. -/
import Derived.Test.YtkejmifkjgpdjaaGreatM13
import Derived.Test.YtkejmifkjgpdjaaGreatRows
import Derived.WalkKit
namespace Go.Proofs.YtkejmifkjgpdjaaGreat
open Go.RowKit
set_option linter.unusedVariables false

/-- It declares nothing, and has a prefix. -/
noncomputable def cntB (x : At) : Bool := !(declF x).isSome && !decide ((preS x.name).size = 0)

noncomputable def keyN (ts : List Tk) (i : Nat) (x : At) : ByteArray := ((meanF ts i (preS x.name)).getD ⟨#[]⟩ ++ ⟨#[32]⟩) ++ locS x.name

noncomputable def keysN (ts : List Tk) (i : Nat) (l : List At) : List ByteArray := (l.filter cntB).map (keyN ts i)

def AttrsN (ts : List Tk) (i : Nat) (l : List At) : Prop := (∀ x ∈ l, cntB x = true → (meanF ts i (preS x.name)).isSome = true) ∧ (keysN ts i l).Nodup

def ElemN (ts : List Tk) (i : Nat) (t : Tk) : Prop := t.name.size = 0 ∨ ((meanF ts i (preS t.name)).isSome = true ∧ ¬ preS t.name = nsS ∧ AttrsN ts i t.attrs)

def NamesP (ts : List Tk) : Prop := TreeP ts ∧ ∀ i t, ts[i]? = some t → ElemN ts i t

noncomputable def namesB (ts : List Tk) : Bool := open Classical in decide (NamesP ts)

theorem namesB_t {ts : List Tk} (h : NamesP ts) : namesB ts = true := by unfold namesB; simp [h]

theorem namesB_f {ts : List Tk} (h : ¬ NamesP ts) : namesB ts = false := by unfold namesB; simp [h]

variable {ts : List Tk} {i : Nat} {l : List At} {x : At}

theorem attrsN_nil : AttrsN ts i [] ∧ keysN ts i [] = [] := ⟨⟨fun x hx => absurd hx List.not_mem_nil, List.nodup_nil⟩, rfl⟩

theorem attrsN_skip (h : AttrsN ts i l) (hc : cntB x = false) : AttrsN ts i (l ++ [x]) ∧ keysN ts i (l ++ [x]) = keysN ts i l := by
  have e : keysN ts i (l ++ [x]) = keysN ts i l := by
    unfold keysN
    rw [List.filter_append]
    simp [hc]
  refine ⟨⟨fun y hy hcy => ?_, by rw [e]; exact h.2⟩, e⟩
  rcases List.mem_append.1 hy with h' | h'
  · exact h.1 y h' hcy
  · rw [List.mem_singleton] at h'
    subst h'
    rw [hc] at hcy
    cases hcy

theorem keysN_more (hc : cntB x = true) : keysN ts i (l ++ [x]) = keysN ts i l ++ [keyN ts i x] := by
  unfold keysN
  rw [List.filter_append]
  simp [hc]

theorem attrsN_more (h : AttrsN ts i l) (hc : cntB x = true) (hI : (meanF ts i (preS x.name)).isSome = true) (hk : ¬ keyN ts i x ∈ keysN ts i l) : AttrsN ts i (l ++ [x]) ∧ keysN ts i (l ++ [x]) = keysN ts i l ++ [keyN ts i x] := by
  refine ⟨⟨fun y hy hcy => ?_, ?_⟩, keysN_more hc⟩
  · rcases List.mem_append.1 hy with h' | h'
    · exact h.1 y h' hcy
    · rw [List.mem_singleton] at h'
      subst h'
      exact hI
  · rw [keysN_more hc]
    refine List.nodup_append.2 ⟨h.2, List.pairwise_singleton _ _, fun a ha b hb e => ?_⟩
    rw [List.mem_singleton] at hb
    subst hb
    subst e
    exact hk ha

theorem attrsN_bad (hc : cntB x = true) (h : (meanF ts i (preS x.name)).isSome = false ∨ keyN ts i x ∈ keysN ts i l) : ¬ AttrsN ts i (l ++ [x]) := by
  intro ha
  rcases h with h | h
  · have := ha.1 x (List.mem_append.2 (.inr (List.mem_singleton.2 rfl))) hc
    rw [h] at this
    cases this
  · have h2 := ha.2
    rw [keysN_more hc] at h2
    exact (List.nodup_append.1 h2).2.2 _ h _ (List.mem_singleton.2 rfl) rfl

theorem attrsN_take (n : Nat) (h : AttrsN ts i l) : AttrsN ts i (l.take n) := by
  have e : keysN ts i l = keysN ts i (l.take n) ++ keysN ts i (l.drop n) := by
    conv => lhs; rw [← List.take_append_drop n l]
    unfold keysN
    rw [List.filter_append, List.map_append]
  refine ⟨fun y hy hcy => h.1 y (List.mem_of_mem_take hy) hcy, ?_⟩
  have h2 := h.2
  rw [e] at h2
  exact (List.nodup_append.1 h2).1

theorem keysN_len (n : Nat) : (keysN ts i (l.take n)).length ≤ n := by
  unfold keysN
  rw [List.length_map]
  have h1 := List.length_filter_le cntB (l.take n)
  rw [List.length_take] at h1
  omega

theorem row_at (h : i < ts.length) : ∃ t, t ∈ ts ∧ ts[i]? = some t ∧ ∀ wx a, TkRow wx a ts → ∃ b o aa cap, a = some ⟨b, o, none⟩ ∧ b < wx.heap.size ∧ wx.cell? ⟨b, o + i * 4 + 1, none⟩ = some (.string t.name) ∧ wx.cell? ⟨b, o + i * 4 + 2, none⟩ = some (.slice aa t.attrs.length cap) ∧ AtRow wx aa t.attrs := by
  refine ⟨ts[i], List.getElem_mem h, List.getElem?_eq_getElem h, fun wx a hr => ?_⟩
  obtain ⟨b, o, aa, ca, e, hb, q0, q1, q2, q3, q4⟩ := hr i h
  exact ⟨b, o, aa, ca, e, hb, q1, q2, q4⟩

theorem preS_sz {s : ByteArray} (h : s.size ≤ 1048576) : (preS s).size ≤ 1048576 := by
  unfold preS
  rw [size_mk]
  have e : s.data.toList.length = s.size := rfl
  unfold partP
  split
  · have := len_pre s.data.toList
    omega
  · simp

theorem locS_sz {s : ByteArray} (h : s.size ≤ 1048576) : (locS s).size ≤ 1048576 := by
  unfold locS
  rw [size_mk]
  have e : s.data.toList.length = s.size := rfl
  unfold partL
  split
  · have := len_loc s.data.toList
    omega
  · simp

theorem meanF_sz (hz : TksSz 1048576 ts) (p : ByteArray) : ((meanF ts i p).getD ⟨#[]⟩).size ≤ 1048576 := by
  unfold meanF meanL
  split
  · cases hf : (upAts ts (chainF ts (i + 1))).find? (declB p) with
    | none =>
      simp only
      split
      · exact Nat.zero_le _
      · exact Nat.zero_le _
    | some y =>
      simp only [Option.getD_some]
      have hy := List.mem_of_find?_eq_some hf
      unfold upAts at hy
      obtain ⟨j, _, hj⟩ := List.mem_flatMap.1 hy
      cases ht : ts[j]? with
      | none => rw [ht] at hj; exact absurd hj List.not_mem_nil
      | some t =>
        rw [ht] at hj
        exact ((hz t (List.mem_of_getElem? ht)).2.2.1 y hj).2
  · exact Nat.zero_le _

end Go.Proofs.YtkejmifkjgpdjaaGreat

namespace Go.Proofs.YtkejmifkjgpdjaaGreat
open Go.RowKit
set_option linter.unusedVariables false
set_option linter.unusedSimpArgs false

def keyV (ks : List ByteArray) : List Value := ks.map Value.string

theorem key_more {w1 : World} {B : Nat} {v : Value} {ks : List ByteArray} {s : ByteArray} (h : w1.ownsRow B 9 1 v (ks.length + 1) (keyV ks ++ [.string s])) : ∃ a c, v = .slice a (ks ++ [s]).length c ∧ w1.ownsRow B 9 1 (.slice a (ks ++ [s]).length c) (ks ++ [s]).length (keyV (ks ++ [s])) := by
  have e : (ks ++ [s]).length = ks.length + 1 := by rw [List.length_append]; rfl
  have e2 : keyV (ks ++ [s]) = keyV ks ++ [.string s] := by unfold keyV; rw [List.map_append]; rfl
  rw [e, e2]
  rcases h.2 with ⟨rfl, h0⟩ | ⟨g, cap, cur, rfl, h3⟩
  · omega
  · exact ⟨_, _, rfl, h⟩

theorem key_cell {w1 : World} {B : Nat} {a : Option Addr} {c n q : Nat} {ks : List ByteArray} (h : w1.ownsRow B 9 1 (.slice a n c) n (keyV ks)) (hn : ks.length = n) (hq : q < ks.length) : ∃ g, a = some ⟨g, 0, none⟩ ∧ w1.cell? ⟨g, q, none⟩ = some (.string ks[q]) := by
  rcases h.2 with ⟨_, h0⟩ | ⟨g, cap, cur, e, h3⟩
  · omega
  · cases e
    refine ⟨g, rfl, ?_⟩
    rw [World.ownsRow.cellAt h q (by omega)]
    unfold keyV
    rw [List.getElem?_map, List.getElem?_eq_getElem hq]
    rfl

/-- None of these is it. -/
noncomputable def freshB (ks : List ByteArray) (s : ByteArray) : Bool := open Classical in decide (¬ s ∈ ks)

theorem freshB_t {ks : List ByteArray} {s : ByteArray} (h : ¬ s ∈ ks) : freshB ks s = true := by unfold freshB; simp [h]

theorem freshB_f {ks : List ByteArray} {s : ByteArray} (h : s ∈ ks) : freshB ks s = false := by unfold freshB; simp [h]

theorem freshB_next {ks : List ByteArray} {s : ByteArray} {q : Nat} (hq : q < ks.length) : freshB (ks.take (q + 1)) s = (freshB (ks.take q) s && !decide (ks[q] = s)) := by
  have e : s ∈ ks.take (q + 1) ↔ s ∈ ks.take q ∨ s = ks[q] := by rw [take_snocN hq, List.mem_append, List.mem_singleton]
  by_cases h1 : s ∈ ks.take q
  · rw [freshB_f (e.2 (.inl h1)), freshB_f h1]
    rfl
  · rw [freshB_t h1, Bool.true_and]
    by_cases h2 : ks[q] = s
    · rw [freshB_f (e.2 (.inr h2.symm)), decide_eq_true h2]
      rfl
    · rw [freshB_t (fun h => by
        rcases e.1 h with h' | h'
        · exact h1 h'
        · exact h2 h'.symm), decide_eq_false h2]
      rfl

set_option maxRecDepth 4000 in
set_option maxHeartbeats 8000000 in
theorem cNamesOkS (a : Option Addr) (cap : Nat) (ts : List Tk) (w : World) (hR : TkRow w a ts) (hn : ts.length ≤ 1048576) (hz : TksSz 1048576 ts) :
    Calls Tryz.prog 14 #[.slice a ts.length cap] w fun e w' => e = .returned (.bool (namesB ts)) ∧ Below w.heap.size w w' := by
  obtain ⟨i0, hi, hz0, hz1, hz2⟩ := info_parts info9
  have HI := hid (And.intro hi (And.intro hz0 (And.intro hz1 hz2)))
  clear hi hz0 hz1 hz2
  obtain ⟨V, hV⟩ : ∃ V, namesB ts = V := ⟨_, rfl⟩
  have HF : Hid (¬ NamesP ts → V = false) := fun h => by rw [← hV]; exact namesB_f h
  have HT : Hid (NamesP ts → V = true) := fun h => by rw [← hV]; exact namesB_t h
  rw [hV]
  clear hV
  have C := hid (cTreeOkS a cap ts w hR hn hz)
  by_cases hT : TreeP ts
  case neg =>
    rw [treeB_f hT] at C
    have HV := hid (HF.out (fun h => hT h.1))
    clear hR hz hT HF HT
    generalize ts.length = n at *
    go_enter Tryz.func14, Tryz.ntmps14
    go_wp2_with fail
    refine C.out.mono ?_
    rintro e w1 ⟨rfl, hb1⟩
    have HB1 := hid hb1
    clear hb1 C
    go_wp2_with fail
    go_ret
    exact ⟨by rw [HV.out]; rfl, HB1.out⟩
  rw [treeB_t hT] at C
  have HR := hid hR
  have HZ := hid hz
  have HTP := hid hT
  have hn50 : ts.length ≤ 50 := hT.2.1
  have CM := hid (fun (i : Nat) (h : i < ts.length) (p : ByteArray) wx (hb : Below w.heap.size w wx) (hp : p.size ≤ 1048576) => c_spec_l9Meaning a cap ts i p wx (hR.below hb) hT h hn hz hp)
  obtain ⟨b, o, _, _, ea, -⟩ := hR 0 hT.1
  subst ea
  obtain ⟨n, hnn⟩ : ∃ n, ts.length = n := ⟨_, rfl⟩
  have HN := hid hnn
  rw [hnn] at hn hn50 C CM ⊢
  clear hnn hR hz hT
  go_enter Tryz.func14, Tryz.ntmps14
  go_wp2_with fail
  refine C.out.mono ?_
  rintro e w1 ⟨rfl, hb1⟩
  have HB1 := hid hb1
  clear hb1 C
  go_wp2_with fail
  go_loopw [3] (fun v3 wr => ∃ i : Nat, v3 = .int .i64 (i : Int) ∧ i ≤ n ∧ Hid (∀ j t, j < i → ts[j]? = some t → ElemN ts j t) ∧ Hid (Below w.heap.size w wr)) (fun v3 _ => n - (intOf v3).toNat)
  case atStart => exact ⟨0, rfl, Nat.zero_le _, fun j t h => by omega, HB1.out⟩
  case round =>
    clear HB1
    obtain ⟨i, rfl, hi, HA, HB⟩ := hrel
    by_cases hlt : i < n
    · have his : i < ts.length := by rw [HN.out]; exact hlt
      have hin : (i : Int) < (n : Int) := by omega
      obtain ⟨t, hts, hti, hrow⟩ := row_at his
      have HZT := hid (HZ.out _ hts)
      have HTI := hid hti
      have HROW := hid (fun wx (hb : Below w.heap.size w wx) => hrow wx _ (HR.out.below hb))
      have HBAD := hid (show ¬ ElemN ts i t → V = false from fun h => HF.out (fun hp => h (hp.2 i t HTI.out)))
      have HNX := hid (show ElemN ts i t → ∀ j t', j < i + 1 → ts[j]? = some t' → ElemN ts j t' from fun h j t' hj he => by
        rcases Nat.lt_or_eq_of_le (Nat.le_of_lt_succ hj) with h' | h'
        · exact HA.out j t' h' he
        · subst h'
          rw [HTI.out] at he
          cases he
          exact h)
      clear hts hti hrow HA
      have CMi := hid (fun p wx hb hp => CM.out i hlt p wx hb hp)
      obtain ⟨nA, hnA⟩ : ∃ nA, t.attrs.length = nA := ⟨_, rfl⟩
      have HNA := hid hnA
      have hnA1 : nA ≤ 1048576 := by rw [← hnA]; exact HZT.out.2.1
      rw [hnA] at HROW
      clear hnA his
      obtain ⟨b', o', aa, ca, e', hb, c1, c2, hA⟩ := HROW.out _ HB.out
      obtain ⟨rfl, rfl⟩ : b = b' ∧ o = o' := by cases e'; exact ⟨rfl, rfl⟩
      clear e' c2 hA hb
      have E := empty_is t.name
      by_cases h0 : t.name.size = 0
      · have HN2 := hid (HNX.out (.inl h0))
        rw [decide_eq_true h0] at E
        clear h0
        generalize t.name = nm at *
        go_wp2_with fail
        go_roundw
        case rel => exact ⟨i + 1, by go_num, by omega, HN2.out, HB.out⟩
        case measure => simp [intOf]; omega
      · have H0 := hid h0
        rw [decide_eq_false h0] at E
        clear h0
        have CP := hid (fun wx => cPartsX t.name wx HZT.out.1)
        have HPS := hid (preS_sz HZT.out.1)
        have hE := ns_beq (preS t.name)
        obtain ⟨P, hP⟩ : ∃ P, preS t.name = P := ⟨_, rfl⟩
        obtain ⟨L, hL⟩ : ∃ L, locS t.name = L := ⟨_, rfl⟩
        have HP := hid hP
        rw [hP] at CP HPS hE
        rw [hL] at CP
        clear hP hL
        obtain ⟨I, hI⟩ : ∃ I, (meanF ts i P).isSome = I := ⟨_, rfl⟩
        have HII := hid hI
        have CM1 := hid (fun wx hb => CMi.out P wx hb HPS.out)
        rw [hI] at CM1
        clear hI
        generalize (meanF ts i P).getD ⟨#[]⟩ = G at CM1
        obtain ⟨nm, hnm⟩ : ∃ nm, t.name = nm := ⟨_, rfl⟩
        rw [hnm] at c1 E CP
        clear hnm
        go_wp2_with fail
        refine (CP.out _).mono ?_
        rintro e w2 ⟨rfl, hb2⟩
        have HB2 := hid (bb HB.out hb2)
        clear hb2 CP c1 E HB
        go_wp2_with fail
        refine (CM1.out _ HB2.out).mono ?_
        rintro e w3 ⟨rfl, hb3⟩
        have HB3 := hid (bb HB2.out hb3)
        clear hb3 CM1 HB2
        cases I with
        | false =>
          have HV := hid (HBAD.out (fun h => by
            rcases h with h | ⟨h, _⟩
            · exact H0.out h
            · rw [HP.out, HII.out] at h; cases h))
          go_wp2_with fail
          go_ret
          exact ⟨by rw [HV.out]; rfl, HB3.out⟩
        | true =>
          by_cases hns : P = nsS
          · rw [decide_eq_true hns] at hE
            have HV := hid (HBAD.out (fun h => by
              rcases h with h | ⟨_, h, _⟩
              · exact H0.out h
              · rw [HP.out] at h; exact h hns))
            clear hns
            go_wp2_with fail
            go_ret
            exact ⟨by rw [HV.out]; rfl, HB3.out⟩
          · rw [decide_eq_false hns] at hE
            have HEL := hid (show AttrsN ts i t.attrs → ElemN ts i t from fun h => .inr ⟨by rw [HP.out]; exact HII.out, by rw [HP.out]; exact hns, h⟩)
            have HNE := hid (show ¬ AttrsN ts i t.attrs → V = false from fun h => HBAD.out (fun he => by
              rcases he with h' | ⟨_, _, h'⟩
              · exact H0.out h'
              · exact h h'))
            clear hns HII HP HBAD
            go_wp2_with fail
            go_loopw [8, 9] (fun v8 v9 wr => ∃ (j : Nat) (a8 : Option Addr) (c8 : Nat) (ks : List ByteArray), v9 = .int .i64 (j : Int) ∧ j ≤ nA ∧ v8 = .slice a8 ks.length c8 ∧ ks.length ≤ j ∧ Hid (ks = keysN ts i (t.attrs.take j) ∧ AttrsN ts i (t.attrs.take j)) ∧ Hid (wr.ownsRow w.heap.size 9 1 (.slice a8 ks.length c8) ks.length (keyV ks)) ∧ Hid (Below w.heap.size w wr)) (fun _ v9 _ => nA - (intOf v9).toNat)
            case atStart => exact ⟨0, _, _, [], rfl, Nat.zero_le _, rfl, Nat.zero_le _, ⟨by rw [List.take_zero]; exact attrsN_nil.2.symm, by rw [List.take_zero]; exact attrsN_nil.1⟩, World.ownsRow_made _ _ _ HB3.out.size (by decide) rfl, HB3.out.alloc HB3.out.size _⟩
            case round =>
              clear HB3
              obtain ⟨j, a8, c8, ks, rfl, hj, rfl, hks, HK, HO, HB⟩ := hrel
              obtain ⟨b', o', aa, ca, e', hb, c1, c2, hA⟩ := HROW.out _ HB.out
              obtain ⟨rfl, rfl⟩ : b = b' ∧ o = o' := by cases e'; exact ⟨rfl, rfl⟩
              clear e' c1 hb
              by_cases hjl : j < nA
              · have hjt : j < t.attrs.length := by rw [HNA.out]; exact hjl
                have hjn : (j : Int) < (nA : Int) := by omega
                obtain ⟨b2, o2, rfl, hb2, e1, e2⟩ := hA j hjt
                have HTS := hid (take_snocN hjt)
                have HSZ := hid (HZT.out.2.2.1 _ (List.getElem_mem hjt))
                obtain ⟨y, hy⟩ : ∃ y, t.attrs[j] = y := ⟨_, rfl⟩
                rw [hy] at e1 e2 HTS HSZ
                have CD := hid (fun wx => c_spec_l9Declares y wx HSZ.out.1)
                have CP := hid (fun wx => cPartsX y.name wx HSZ.out.1)
                have HBX := hid ((Below.refl wr.heap.size wr).alloc (Nat.le_refl _) (.cells #[.string y.name, .string y.value] 62))
                have HBOX := hid (box_two wr (.string y.name) (.string y.value) 62)
                obtain ⟨nk, hnk⟩ : ∃ nk, ks.length = nk := ⟨_, rfl⟩
                have HNK := hid hnk
                rw [hnk] at HO hks ⊢
                clear hy hA hnk
                go_wp2_with fail
                refine (CD.out _).mono ?_
                rintro e w4 ⟨rfl, hb4⟩
                have HR4 := hid (bb HBX.out hb4)
                have d1 := (hb4.cell (p := ⟨wr.heap.size, 0, none⟩) HBOX.out.2.2).trans HBOX.out.1
                clear hb4 HBX HBOX CD e1 e2 c2 hb2
                cases hd : declF y with
                | some q =>
                  have HS := hid (attrsN_skip (ts := ts) (i := i) HK.out.2 (show cntB y = false by unfold cntB; rw [hd]; rfl))
                  rw [← HTS.out] at HS
                  have HO4 := hid (ownsRow_below HO.out HR4.out)
                  have HB4 := hid (bb HB.out HR4.out)
                  clear hd CP d1
                  go_wp2_with fail
                  go_roundw
                  case rel => exact ⟨j + 1, a8, c8, ks, by go_num, by omega, by rw [HNK.out], by rw [HNK.out]; omega, ⟨by rw [HS.out.2]; exact HK.out.1, HS.out.1⟩, by rw [HNK.out]; exact HO4.out, HB4.out⟩
                  case measure => simp [intOf]; omega
                | none =>
                  have HD := hid hd
                  clear hd
                  go_wp2_with fail
                  refine (CP.out _).mono ?_
                  rintro e w5 ⟨rfl, hb5⟩
                  have HR5 := hid (bb HR4.out hb5)
                  clear hb5 CP d1 HR4
                  have HPS := hid (preS_sz HSZ.out.1)
                  have HLS := hid (locS_sz HSZ.out.1)
                  have E1 := empty_is (preS y.name)
                  by_cases h0 : (preS y.name).size = 0
                  · have HS := hid (attrsN_skip (ts := ts) (i := i) HK.out.2 (show cntB y = false by unfold cntB; rw [HD.out, decide_eq_true h0]; rfl))
                    rw [← HTS.out] at HS
                    have HO4 := hid (ownsRow_below HO.out HR5.out)
                    have HB4 := hid (bb HB.out HR5.out)
                    rw [decide_eq_true h0] at E1
                    clear h0 HPS HLS
                    generalize preS y.name = P1 at *
                    generalize locS y.name = L1 at *
                    go_wp2_with fail
                    go_roundw
                    case rel => exact ⟨j + 1, a8, c8, ks, by go_num, by omega, by rw [HNK.out], by rw [HNK.out]; omega, ⟨by rw [HS.out.2]; exact HK.out.1, HS.out.1⟩, by rw [HNK.out]; exact HO4.out, HB4.out⟩
                    case measure => simp [intOf]; omega
                  · have HC := hid (show cntB y = true by unfold cntB; rw [HD.out, decide_eq_false h0]; rfl)
                    rw [decide_eq_false h0] at E1
                    have HB5 := hid (bb HB.out HR5.out)
                    have CM1 := hid (CMi.out (preS y.name) w5 HB5.out HPS.out)
                    have hG := meanF_sz (i := i) HZ.out (preS y.name)
                    have HKY := hid (show keyN ts i y = ((meanF ts i (preS y.name)).getD ⟨#[]⟩ ++ ⟨#[32]⟩) ++ locS y.name from rfl)
                    obtain ⟨I1, hI1⟩ : ∃ I, (meanF ts i (preS y.name)).isSome = I := ⟨_, rfl⟩
                    have HI1 := hid hI1
                    rw [hI1] at CM1
                    clear hI1 h0
                    obtain ⟨G1, hG1⟩ : ∃ G, (meanF ts i (preS y.name)).getD ⟨#[]⟩ = G := ⟨_, rfl⟩
                    rw [hG1] at CM1 hG HKY
                    clear hG1
                    obtain ⟨P1, hP1⟩ : ∃ P, preS y.name = P := ⟨_, rfl⟩
                    rw [hP1] at CM1 E1 ⊢
                    clear hP1
                    have hL1 := HLS.out
                    obtain ⟨L1, hL1e⟩ : ∃ L, locS y.name = L := ⟨_, rfl⟩
                    rw [hL1e] at hL1 HKY ⊢
                    clear hL1e HLS HPS
                    obtain ⟨S1, hS1⟩ : ∃ S, G1 ++ (⟨#[32]⟩ : ByteArray) = S := ⟨_, rfl⟩
                    have hs1 : S1.size = G1.size + 1 := by rw [← hS1, ByteArray.size_append]; rfl
                    have ho1 : ¬ 9223372036854775807 < G1.size + (⟨#[32]⟩ : ByteArray).size := by rw [show (⟨#[32]⟩ : ByteArray).size = 1 from rfl]; omega
                    rw [hS1] at HKY
                    obtain ⟨S2, hS2⟩ : ∃ S, S1 ++ L1 = S := ⟨_, rfl⟩
                    have ho2 : ¬ 9223372036854775807 < S1.size + L1.size := by omega
                    rw [hS2] at HKY
                    go_wp2_with fail
                    refine CM1.out.mono ?_
                    rintro e w6 ⟨rfl, hb6⟩
                    have HR6 := hid (bb HR5.out hb6)
                    have HB6 := hid (bb HB.out HR6.out)
                    have HO6 := hid (ownsRow_below HO.out HR6.out)
                    clear hb6 CM1 HR5 HB5 HO HR6 HB
                    go_wp2_with fail
                    clear hS1 hS2 hs1 ho1 ho2 E1
                    go_loop [16, 18] (fun v16 v18 => ∃ q : Nat, v18 = .int .i64 (q : Int) ∧ q ≤ nk ∧ v16 = .bool (I1 && freshB (ks.take q) S2)) (fun _ v18 => nk - (intOf v18).toNat)
                    case atStart => exact ⟨0, rfl, Nat.zero_le _, by rw [List.take_zero, show freshB [] S2 = true by unfold freshB; simp]; simp⟩
                    case round =>
                      obtain ⟨q, rfl, hq, rfl⟩ := hrel
                      by_cases hql : q < nk
                      · have hqs : q < ks.length := by rw [HNK.out]; exact hql
                        have hqn : (q : Int) < (nk : Int) := by omega
                        have HFN := hid (freshB_next (s := S2) hqs)
                        obtain ⟨g, ea, cq⟩ := key_cell HO6.out HNK.out hqs
                        subst ea
                        have hz := str_beq ks[q] S2
                        generalize ks[q] = kq at *
                        generalize decide (kq = S2) = D at *
                        generalize freshB (ks.take q) S2 = F at *
                        have HFI := hid (show (I1 && (F && !D)) = ((I1 && F) && !D) by rw [Bool.and_assoc])
                        generalize (I1 && F) = B at *
                        cases B
                        · go_wp2_with fail
                          go_round
                          case rel => exact ⟨q + 1, by go_num, by omega, by rw [HFN.out, HFI.out]; rfl⟩
                          case measure => simp [intOf]; omega
                        · go_wp2_with fail
                          go_round
                          case rel => exact ⟨q + 1, by go_num, by omega, by rw [HFN.out, HFI.out]; cases D <;> rfl⟩
                          case measure => simp [intOf]; omega
                      · have hta : ks.take q = ks := List.take_of_length_le (by have := HNK.out; omega)
                        rw [hta]
                        have hqe : q = nk := by omega
                        clear hta
                        subst hqe
                        obtain ⟨B, hB⟩ : ∃ B, (I1 && freshB ks S2) = B := ⟨_, rfl⟩
                        have HBB := hid hB
                        rw [hB]
                        clear hB
                        cases B with
                        | false =>
                          have HV := hid (HNE.out (fun h => by
                            have h2 := attrsN_take (j + 1) h
                            rw [HTS.out] at h2
                            refine attrsN_bad HC.out ?_ h2
                            rw [HI1.out, HKY.out, ← HK.out.1]
                            rcases Bool.and_eq_false_iff.1 HBB.out with h' | h'
                            · exact .inl h'
                            · right
                              unfold freshB at h'
                              simpa using h'))
                          go_wp2_with fail
                          go_ret
                          exact ⟨by rw [HV.out]; rfl, HB6.out⟩
                        | true =>
                          obtain ⟨q1, q2⟩ := Bool.and_eq_true_iff.1 HBB.out
                          have HS := hid (attrsN_more (ts := ts) (i := i) HK.out.2 HC.out (by rw [HI1.out]; exact q1) (by
                            rw [HKY.out, ← HK.out.1]
                            unfold freshB at q2
                            simpa using q2))
                          rw [← HTS.out, HKY.out, ← HK.out.1] at HS
                          have hsz := HB6.out.size
                          clear q1 q2
                          go_wp2_with (at_builtin; refine wpList_append_own _ rfl _ _ 24 rfl w.heap.size 9 i0 (.string ByteArray.empty) 1 16 Tryz.underlying24 HI.out.1 HI.out.2.1 HI.out.2.2.1 HI.out.2.2.2 rfl (by decide) _ _ _ rfl (HO6.out.alloc _) ⟨w6.heap.size, 0, none⟩ 1 1 [.string S2] rfl rfl (one_cell _ _ _) (one_str _) (by unfold maxLen; omega) (by omega) (by simp; omega) ?_)
                          intro v' w7 hown' hgrow _
                          have HB7 := hid ((HB6.out.alloc hsz _).grown hgrow (by simp; omega) (fun k hk => (HO6.out.lt k hk).1))
                          rw [← HNK.out] at hown'
                          obtain ⟨a9, c9, rfl, ho9⟩ := key_more hown'
                          have HO9 := hid ho9
                          clear hown' hgrow ho9
                          have HL9 := hid (show (ks ++ [S2]).length ≤ j + 1 by rw [List.length_append, HNK.out]; show _ + 1 ≤ _; omega)
                          generalize ks ++ [S2] = ks9 at *
                          go_wp2_with fail
                          go_roundw
                          case rel => exact ⟨j + 1, a9, c9, ks9, by go_num, by omega, rfl, HL9.out, ⟨HS.out.2.symm, HS.out.1⟩, HO9.out, HB7.out⟩
                          case measure => simp [intOf]; omega
              · have HN2 := hid (HNX.out (HEL.out (by
                  have h := HK.out.2
                  rw [List.take_of_length_le (by have := HNA.out; omega)] at h
                  exact h)))
                have hjn : j = nA := by omega
                subst hjn
                clear hA
                generalize ks.length = nk at *
                go_wp2_with fail
                go_roundw
                case rel => exact ⟨i + 1, by go_num, by omega, HN2.out, HB.out⟩
                case measure => simp [intOf]; omega
    · have HV := hid (HT.out ⟨HTP.out, fun j t he => HA.out j t (by
        have h1 : j < ts.length := by
          rcases Nat.lt_or_ge j ts.length with h' | h'
          · exact h'
          · rw [List.getElem?_eq_none h'] at he; cases he
        have := HN.out
        omega) he⟩)
      have hie : i = n := by omega
      subst hie
      go_wp2_with fail
      go_ret
      exact ⟨by rw [HV.out]; rfl, HB.out⟩

end Go.Proofs.YtkejmifkjgpdjaaGreat

namespace Go.Proofs.YtkejmifkjgpdjaaGreat
open Go.RowKit
set_option linter.unusedVariables false
set_option linter.unusedSimpArgs false

def isDig (c : UInt8) : Bool := decide (48 ≤ c.toNat) && decide (c.toNat ≤ 57)

def valD (l : List UInt8) : Nat := l.foldl (fun n c => 10 * n + (c.toNat - 48)) 0

/-- The number that digits tell; -1 of others. -/
def rdI (l : List UInt8) : Int := if l.all isDig = true then (valD l : Int) else -1

theorem valD_snoc (l : List UInt8) (c : UInt8) : valD (l ++ [c]) = 10 * valD l + (c.toNat - 48) := by
  unfold valD
  rw [List.foldl_append]
  rfl

theorem fold_lt : ∀ (l : List UInt8) (n : Nat), l.all isDig = true → l.foldl (fun n c => 10 * n + (c.toNat - 48)) n < (n + 1) * 10 ^ l.length
  | [], n, _ => by simp
  | c :: l, n, h => by
    simp only [List.all_cons, Bool.and_eq_true] at h
    have hc : c.toNat - 48 ≤ 9 := by
      have := h.1
      unfold isDig at this
      simp at this
      omega
    have ih := fold_lt l (10 * n + (c.toNat - 48)) h.2
    rw [List.foldl_cons, List.length_cons, Nat.pow_succ]
    have : (10 * n + (c.toNat - 48) + 1) * 10 ^ l.length ≤ (10 * n + 10) * 10 ^ l.length := Nat.mul_le_mul_right _ (by omega)
    have e : (n + 1) * (10 ^ l.length * 10) = (10 * n + 10) * 10 ^ l.length := by
      rw [Nat.mul_comm (10 ^ l.length) 10, ← Nat.mul_assoc]
      congr 1
      omega
    omega

theorem valD_lt (l : List UInt8) (h : l.all isDig = true) : valD l < 10 ^ l.length := by
  have := fold_lt l 0 h
  unfold valD
  simpa using this

theorem rdI_bounds (l : List UInt8) : -1 ≤ rdI l ∧ rdI l < 10 ^ l.length := by
  unfold rdI
  split
  · rename_i h
    have := valD_lt l h
    refine ⟨by omega, ?_⟩
    exact_mod_cast this
  · have : (0 : Int) < 10 ^ l.length := Int.pow_pos (by decide)
    omega

theorem dig_cDigit (c : UInt8) (w : World) :
    Calls Tryz.prog 118 #[.int .u8 c.toNat] w fun e w' => e = .returned (.bool (isDig c)) ∧ w' = w := by
  by_cases h1 : 48 ≤ c.toNat
  · by_cases h2 : c.toNat ≤ 57
    · have e : isDig c = true := by unfold isDig; simp [h1, h2]
      rw [e]
      generalize c.toNat = n at *
      go_enter Tryz.func118, Tryz.ntmps118
      go_wp2
      go_ret
      exact ⟨by first | rfl | (congr 2; simp; omega), rfl⟩
    · have e : isDig c = false := by unfold isDig; simp [h2]
      rw [e]
      generalize c.toNat = n at *
      go_enter Tryz.func118, Tryz.ntmps118
      go_wp2
      go_ret
      exact ⟨by first | rfl | (congr 2; simp; omega), rfl⟩
  · have e : isDig c = false := by unfold isDig; simp [h1]
    rw [e]
    generalize c.toNat = n at *
    go_enter Tryz.func118, Tryz.ntmps118
    go_wp2
    go_ret
    exact ⟨by first | rfl | (congr 2; simp; omega), rfl⟩

theorem getL (b : ByteArray) (i : Nat) (h : i < b.size) : b.data.toList[i]? = some b[i] := by
  have h' : i < b.data.size := h
  rw [Array.getElem?_toList, Array.getElem?_eq_getElem h']
  rfl

theorem dig_take_snoc (b : ByteArray) (o j : Nat) (h : o + j < b.size) : (b.data.toList.drop o).take (j + 1) = (b.data.toList.drop o).take j ++ [b[o + j]] := by
  rw [List.take_add_one, List.getElem?_drop, getL b (o + j) h]
  rfl

theorem all_snoc (l : List UInt8) (c : UInt8) : (l ++ [c]).all isDig = (l.all isDig && isDig c) := by simp

theorem all_false {l : List UInt8} {o j : Nat} {c : UInt8} {q : List UInt8} (h : (l.drop o).take (j + 1) = q ++ [c]) (hc : isDig c = false) (wd : Nat) (hj : j < wd) : ((l.drop o).take wd).all isDig = false := by
  have e : ((l.drop o).take (j + 1)).all isDig = false := by rw [h, all_snoc, hc]; simp
  rw [List.all_eq_false] at e ⊢
  obtain ⟨x, hx, hf⟩ := e
  refine ⟨x, ?_, hf⟩
  have : (l.drop o).take (j + 1) = ((l.drop o).take wd).take (j + 1) := by rw [List.take_take, Nat.min_eq_left (by omega)]
  rw [this] at hx
  exact List.mem_of_mem_take hx

theorem dig_sz (b : ByteArray) : b.size = b.data.toList.length := by rw [Array.length_toList]; rfl

theorem val_bound {n : Nat} {l : List UInt8} (h : l.all isDig = true) (hl : l.length ≤ n) (hn : n ≤ 15) : valD l < 1000000000000000 := by
  have h1 := valD_lt l h
  have h2 : 10 ^ l.length ≤ 10 ^ 15 := Nat.pow_le_pow_right (by decide) (by omega)
  have h3 : (10 : Nat) ^ 15 = 1000000000000000 := by decide
  omega

theorem sub48 (c : UInt8) (h : isDig c = true) : IntKind.u8.wrap ((c.toNat : Int) - 48) = ((c.toNat - 48 : Nat) : Int) := by
  have := c.toNat_lt
  unfold isDig at h
  simp at h
  rw [IntWalk.u8_in _ (by omega)]
  omega

set_option maxHeartbeats 2000000 in
theorem cDigitsI (b : ByteArray) (w : World) (hb : b.size ≤ 15) :
    Calls Tryz.prog 140 #[.string b] w fun e w' => e = .returned (.tuple #[.int .i64 (if b.data.toList.all isDig = true then (valD b.data.toList : Int) else 0), .bool (b.data.toList.all isDig)]) ∧ w' = w := by
  obtain ⟨R, hR⟩ : ∃ R : Int, (if b.data.toList.all isDig = true then (valD b.data.toList : Int) else 0) = R := ⟨_, rfl⟩
  obtain ⟨B, hB⟩ : ∃ B : Bool, b.data.toList.all isDig = B := ⟨_, rfl⟩
  have HR : Hid ((if b.data.toList.all isDig = true then (valD b.data.toList : Int) else 0) = R) := hR
  have HB : Hid (b.data.toList.all isDig = B) := hB
  rw [hR, hB]
  clear hR hB
  go_enter Tryz.func140, Tryz.ntmps140
  go_wp2
  go_loop [4, 8] (fun n i => ∃ j v : Nat, i = .int .i64 (j : Int) ∧ j ≤ b.size ∧ n = .int .i64 (v : Int) ∧ v = valD ((b.data.toList.drop 0).take j) ∧ ((b.data.toList.drop 0).take j).all isDig = true) (fun _ i => b.size - (intOf i).toNat)
  case atStart => exact ⟨0, 0, rfl, Nat.zero_le _, rfl, rfl, rfl⟩
  case round =>
    obtain ⟨j, v, rfl, hj, rfl, hv, hall⟩ := hrel
    have hvb : v < 1000000000000000 := by rw [hv]; exact val_bound (n := b.size) hall (by simp; omega) hb
    have HV : Hid (v = valD ((b.data.toList.drop 0).take j)) := hv
    have HA : Hid (((b.data.toList.drop 0).take j).all isDig = true) := hall
    clear hv hall
    by_cases hlt : j < b.size
    · have hts := dig_take_snoc b 0 j (by omega)
      simp only [Nat.zero_add] at hts
      have HT : Hid ((b.data.toList.drop 0).take (j + 1) = (b.data.toList.drop 0).take j ++ [b[j]]) := hts
      have C := fun w => dig_cDigit b[j] w
      clear hts
      by_cases hd : isDig b[j] = true
      · have hs := sub48 b[j] hd
        have HD : Hid (isDig b[j] = true) := hd
        rw [hd] at C
        obtain ⟨x, hx⟩ : ∃ x : Nat, b[j].toNat - 48 = x := ⟨_, rfl⟩
        have hx9 : x ≤ 255 := by have := b[j].toNat_lt; omega
        have HX : Hid (b[j].toNat - 48 = x) := hx
        rw [hx] at hs
        clear hx hd
        go_wp2_with fail
        refine (C _).mono ?_
        rintro e w' ⟨rfl, rfl⟩
        go_wp2_with fail
        go_round
        case rel =>
          refine ⟨j + 1, 10 * v + x, by go_num, by omega, by go_num, ?_, ?_⟩
          · rw [HT.out, valD_snoc, ← HV.out, HX.out]
          · rw [HT.out, all_snoc, HA.out, HD.out]; rfl
        case measure => simp [intOf]; omega
      · replace hd : isDig b[j] = false := by simpa using hd
        have hf := all_false HT.out hd b.size hlt
        have e : b.data.toList.drop 0 = b.data.toList := rfl
        rw [e, List.take_of_length_le (by rw [← dig_sz]; exact Nat.le_refl _)] at hf
        have h1 := HB.out
        have h2 := HR.out
        rw [hf] at h1 h2
        rw [if_neg (by simp)] at h2
        subst h1 h2
        rw [hd] at C
        clear hd hf HB HR HT HA HV e
        go_wp2_with fail
        refine (C _).mono ?_
        rintro e w' ⟨rfl, rfl⟩
        go_wp2_with fail
        go_ret2
        exact ⟨rfl, rfl⟩
    · have hje : j = b.size := by omega
      have e : (b.data.toList.drop 0).take j = b.data.toList := by rw [hje]; exact List.take_of_length_le (by rw [dig_sz]; simp)
      have h1 := HB.out
      have h2 := HR.out
      have h3 := HA.out
      have h4 := HV.out
      rw [e] at h3 h4
      rw [h3] at h1 h2
      rw [if_pos rfl, ← h4] at h2
      subst h1 h2
      clear HB HR HA HV e h3 h4 hje
      go_wp2_with fail
      go_ret2
      exact ⟨rfl, rfl⟩

set_option maxHeartbeats 2000000 in
theorem cDigitsS (b : ByteArray) (o wd : Nat) (w : World) (hw : wd ≤ 15) (hb : o + wd ≤ b.size) (hs : b.size ≤ 1048576) :
    Calls Tryz.prog 72 #[.string b, .int .i64 o, .int .i64 wd] w fun e w' => e = .returned (.int .i64 (rdI ((b.data.toList.drop o).take wd))) ∧ w' = w := by
  obtain ⟨R, hR⟩ : ∃ R : Int, rdI ((b.data.toList.drop o).take wd) = R := ⟨_, rfl⟩
  have HR : Hid (rdI ((b.data.toList.drop o).take wd) = R) := hR
  rw [hR]
  clear hR
  go_enter Tryz.func72, Tryz.ntmps72
  go_wp2
  go_loop [7, 8] (fun n i => ∃ j v : Nat, i = .int .i64 ((o + j : Nat) : Int) ∧ j ≤ wd ∧ n = .int .i64 (v : Int) ∧ v = valD ((b.data.toList.drop o).take j) ∧ ((b.data.toList.drop o).take j).all isDig = true) (fun _ i => o + wd - (intOf i).toNat)
  case atStart => exact ⟨0, 0, rfl, Nat.zero_le _, rfl, rfl, rfl⟩
  case round =>
    obtain ⟨j, v, rfl, hj, rfl, hv, hall⟩ := hrel
    have hvb : v < 1000000000000000 := by rw [hv]; exact val_bound (n := wd) hall (by simp; omega) hw
    have HV : Hid (v = valD ((b.data.toList.drop o).take j)) := hv
    have HA : Hid (((b.data.toList.drop o).take j).all isDig = true) := hall
    clear hv hall
    obtain ⟨p, hp⟩ : ∃ p : Nat, o + j = p := ⟨_, rfl⟩
    have HP : Hid (o + j = p) := hp
    by_cases hlt : j < wd
    · have hpb : p < b.size := by omega
      have hpw : p < o + wd := by omega
      have hts := dig_take_snoc b o j (by omega)
      simp only [hp] at hts
      have HT : Hid ((b.data.toList.drop o).take (j + 1) = (b.data.toList.drop o).take j ++ [b[p]]) := hts
      rw [hp]
      clear hts hp
      have hwr : IntKind.i64.wrap ((o : Int) + (wd : Int)) = (o : Int) + (wd : Int) := IntWalk.i64_in _ (by omega)
      have hpi : (p : Int) < (o : Int) + (wd : Int) := by omega
      by_cases hd : isDig b[p] = true
      · have hs48 := sub48 b[p] hd
        have HD : Hid (isDig b[p] = true) := hd
        have q1 : 48 ≤ b[p].toNat := by unfold isDig at hd; simp at hd; omega
        have q2 : b[p].toNat ≤ 57 := by unfold isDig at hd; simp at hd; omega
        have d1 : decide ((b[p].toNat : Int) < 48) = false := by simp; omega
        have d2 : decide ((57 : Int) < (b[p].toNat : Int)) = false := by simp; omega
        obtain ⟨x, hx⟩ : ∃ x : Nat, b[p].toNat - 48 = x := ⟨_, rfl⟩
        have hx9 : x ≤ 255 := by omega
        have HX : Hid (b[p].toNat - 48 = x) := hx
        rw [hx] at hs48
        clear hx hd
        go_wp2_with fail
        go_round
        case rel =>
          have h1 := HP.out
          refine ⟨j + 1, 10 * v + x, by go_num, by omega, by go_num, ?_, ?_⟩
          · rw [HT.out, valD_snoc, ← HV.out, HX.out]
          · rw [HT.out, all_snoc, HA.out, HD.out]; rfl
        case measure => simp [intOf]; omega
      · replace hd : isDig b[p] = false := by simpa using hd
        have hf := all_false HT.out hd wd hlt
        have h2 := HR.out
        unfold rdI at h2
        rw [if_neg (by rw [hf]; simp)] at h2
        subst h2
        have hq : b[p].toNat < 48 ∨ (48 ≤ b[p].toNat ∧ 57 < b[p].toNat) := by
          unfold isDig at hd
          simp at hd
          omega
        clear hd hf HR HT HA HV
        rcases hq with hq | ⟨hq, hq2⟩
        · have d1 : decide ((b[p].toNat : Int) < 48) = true := by simp; omega
          go_wp2_with fail
          go_ret
          exact ⟨rfl, rfl⟩
        · have d1 : decide ((b[p].toNat : Int) < 48) = false := by simp; omega
          have d2 : decide ((57 : Int) < (b[p].toNat : Int)) = true := by simp; omega
          go_wp2_with fail
          go_ret
          exact ⟨rfl, rfl⟩
    · have hje : j = wd := by omega
      have hpw : ¬ p < o + wd := by omega
      rw [hp]
      clear hp
      have hwr : IntKind.i64.wrap ((o : Int) + (wd : Int)) = (o : Int) + (wd : Int) := IntWalk.i64_in _ (by omega)
      have hpi : ¬ (p : Int) < (o : Int) + (wd : Int) := by omega
      have h2 := HR.out
      unfold rdI at h2
      rw [← hje, if_pos HA.out, ← HV.out] at h2
      subst h2
      clear HR HA HV hje
      go_wp2_with fail
      go_ret
      exact ⟨rfl, rfl⟩

end Go.Proofs.YtkejmifkjgpdjaaGreat
