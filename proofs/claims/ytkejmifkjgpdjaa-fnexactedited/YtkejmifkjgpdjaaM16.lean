/- Contract of the specification's Wrapped. Marks in a row of tokens: set, and held. Marks in a row of nodes: set, and held. -/
import Derived.Test.YtkejmifkjgpdjaaM15
import Derived.Test.YtkejmifkjgpdjaaM12
import Derived.Test.YtkejmifkjgpdjaaM10
namespace Go.Proofs.Ytkejmifkjgpdjaa
open Go.RowKit
set_option linter.unusedVariables false
set_option linter.unusedSimpArgs false

/-- The one that wraps. -/
def wrapN (name : ByteArray) : Tk := ⟨0, name, [], ⟨#[]⟩⟩

/-- A tree with one wrapped. -/
def wrapL (ts : List Tk) (k : Nat) (name : ByteArray) : List Tk := match ts[k]? with
  | some t => (putL ts k t.kind [wrapN name]).set (k + 1) (shK (k : Int) t)
  | none => ts

noncomputable def wrapB (ts : List Tk) (x : Int) (name : ByteArray) : Bool := decide (1 ≤ x) && (elemB ts x && (nameL name.data.toList && treeB (wrapL ts x.toNat name)))

noncomputable def wrapT (ts : List Tk) (x : Int) (name : ByteArray) : List Tk := if treeB ts then (if wrapB ts x name then wrapL ts x.toNat name else ts) else []

theorem wrapL_len {ts : List Tk} {k : Nat} {name : ByteArray} (hk : k < ts.length) : (wrapL ts k name).length = ts.length + 1 := by
  unfold wrapL
  rw [List.getElem?_eq_getElem hk]
  simp only
  rw [List.length_set, putL_len (by omega)]
  rfl

theorem wrapL_sz {ts : List Tk} {k : Nat} {name : ByteArray} (hk : k < ts.length) (hz : TksSz 1048576 ts) (hn : name.size ≤ 1048576) : TksSz 1048576 (wrapL ts k name) := by
  unfold wrapL
  rw [List.getElem?_eq_getElem hk]
  simp only
  intro t ht
  rcases List.mem_or_eq_of_mem_set ht with h' | h'
  · refine put_sz hz (fun u hu => ?_) t h'
    rw [List.mem_singleton] at hu
    subst hu
    exact ⟨hn, Nat.zero_le _, fun y hy => absurd hy List.not_mem_nil, Nat.zero_le _⟩
  · subst h'
    exact hz ts[k] (List.getElem_mem hk)

theorem wrap_row {w : World} {g : Nat} {name : ByteArray} (h : w.heap[g]? = some (.cells #[.int .i64 0, .string name, .slice none 0 0, .string ⟨#[]⟩] 50 (0, 0))) : TkRow w (some ⟨g, 0, none⟩) [wrapN name] := by
  intro j hj
  have hj0 : j = 0 := by simpa using hj
  subst hj0
  obtain ⟨⟨x0, x1, x2, x3⟩, _⟩ := box4 h
  exact ⟨g, 0, none, 0, rfl, lt_of_heap h, x0, x1, x2, x3, fun i hi => absurd hi (Nat.not_lt_zero _)⟩

set_option maxRecDepth 4000 in
set_option maxHeartbeats 4000000 in
theorem cWrappedS (a : Option Addr) (cap : Nat) (ts : List Tk) (x : Int) (name : ByteArray) (w : World) (hR : TkRow w a ts) (hc : ts.length ≤ cap) (hcm : cap ≤ maxLen) (hn : ts.length ≤ 1048576) (hz : TksSz 1048576 ts) (hnm : name.size ≤ 1048576) :
    Calls Try.prog 39 #[.slice a ts.length cap, .int .i64 x, .string name] w (TreeAns w (wrapT ts x name) (wrapB ts x name)) := by
  have C := hid (cTreeOkS a cap ts w hR hn hz)
  have HR := hid hR
  have CC := hid (fun wx (h : TkRow wx a ts) => cCopyT a cap ts wx h hn hz)
  cases hT : treeB ts with
  | false =>
    have HE := hid (And.intro (show wrapT ts x name = [] by unfold wrapT; rw [hT]; rfl) (show wrapB ts x name = false by unfold wrapB; rw [elemB_tree hT, Bool.false_and, Bool.and_false]))
    rw [HE.out.1, HE.out.2]
    rw [hT] at C
    clear hT HE hR hz
    generalize ts.length = n at *
    go_enter Try.func39, Try.ntmps39
    go_wp2_with fail
    refine C.out.mono ?_
    rintro e w1 ⟨rfl, hb1⟩
    have HB1 := hid hb1
    clear hb1 C
    go_wp2_with fail
    go_ret2
    exact TreeAns.none HB1.out
  | true =>
    have CE := hid (fun wx (h : TkRow wx a ts) => c_spec_l9Element a cap ts x wx h hn hz)
    have CN := hid (fun wx => c_spec_NameOk name wx hnm)
    have HG := hid (show wrapT ts x name = if wrapB ts x name then wrapL ts x.toNat name else ts by unfold wrapT; rw [hT]; rfl)
    rw [HG.out]
    rw [hT] at C
    cases h1 : decide (1 ≤ x) with
    | false =>
      have HV := hid (show wrapB ts x name = false by unfold wrapB; rw [h1]; rfl)
      rw [HV.out]
      show Calls _ _ _ _ (TreeAns w ts false)
      have hx1 : decide (x < 1) = true := decide_eq_true (by have := of_decide_eq_false h1; omega)
      clear hT HG HV hR hz CN CE h1
      generalize ts.length = n at *
      go_enter Try.func39, Try.ntmps39
      go_wp2_with fail
      refine C.out.mono ?_
      rintro e w1 ⟨rfl, hb1⟩
      have HB1 := hid hb1
      clear hb1 C
      go_wp2_with fail
      refine (CC.out _ (HR.out.below HB1.out)).mono ?_
      rintro e w3 ⟨v3, rfl, hr3⟩
      have HR3 := hid (RowOf.later HB1.out hr3)
      clear hr3 CC
      go_wp2_with fail
      go_ret2
      exact ⟨_, rfl, HR3.out⟩
    | true =>
      have hx1 : decide (x < 1) = false := decide_eq_false (by have := of_decide_eq_true h1; omega)
      cases hE : elemB ts x with
      | false =>
        have HV := hid (show wrapB ts x name = false by unfold wrapB; rw [hE, Bool.false_and, Bool.and_false])
        rw [HV.out]
        rw [hE] at CE
        show Calls _ _ _ _ (TreeAns w ts false)
        clear hT HG HV hR hz CN h1 hE
        generalize ts.length = n at *
        go_enter Try.func39, Try.ntmps39
        go_wp2_with fail
        refine C.out.mono ?_
        rintro e w1 ⟨rfl, hb1⟩
        have HB1 := hid hb1
        clear hb1 C
        go_wp2_with fail
        refine (CE.out _ (HR.out.below HB1.out)).mono ?_
        rintro e w2 ⟨rfl, hb2⟩
        have HB2 := hid (bb HB1.out hb2)
        clear hb2 CE
        go_wp2_with fail
        refine (CC.out _ (HR.out.below HB2.out)).mono ?_
        rintro e w3 ⟨v3, rfl, hr3⟩
        have HR3 := hid (RowOf.later HB2.out hr3)
        clear hr3 CC
        go_wp2_with fail
        go_ret2
        exact ⟨_, rfl, HR3.out⟩
      | true =>
        rw [hE] at CE
        cases hB : nameL name.data.toList with
        | false =>
          have HV := hid (show wrapB ts x name = false by unfold wrapB; rw [hB, Bool.false_and, Bool.and_false, Bool.and_false])
          rw [HV.out]
          rw [hB] at CN
          show Calls _ _ _ _ (TreeAns w ts false)
          clear hT HG HV hR hz h1 hE hB
          generalize ts.length = n at *
          go_enter Try.func39, Try.ntmps39
          go_wp2_with fail
          refine C.out.mono ?_
          rintro e w1 ⟨rfl, hb1⟩
          have HB1 := hid hb1
          clear hb1 C
          go_wp2_with fail
          refine (CE.out _ (HR.out.below HB1.out)).mono ?_
          rintro e w2 ⟨rfl, hb2⟩
          have HB2 := hid (bb HB1.out hb2)
          clear hb2 CE
          go_wp2_with fail
          refine (CN.out _).mono ?_
          rintro e w3 ⟨rfl, hb3⟩
          have HB3 := hid (bb HB2.out hb3)
          clear hb3 CN
          go_wp2_with fail
          refine (CC.out _ (HR.out.below HB3.out)).mono ?_
          rintro e w4 ⟨v4, rfl, hr4⟩
          have HR4 := hid (RowOf.later HB3.out hr4)
          clear hr4 CC
          go_wp2_with fail
          go_ret2
          exact ⟨_, rfl, HR4.out⟩
        | true =>
          rw [hB] at CN
          obtain ⟨hTP, k, rfl, hk⟩ := elemB_t hE
          have hk1 : 1 ≤ k := by have := of_decide_eq_true h1; omega
          have htk := seg_of hk
          have hkb := tree_kind hTP htk
          have CP := hid (fun wx g (h : TkRow wx a ts) (h2 : TkRow wx (some ⟨g, 0, none⟩) [wrapN name]) => cPutL a (some ⟨g, 0, none⟩) cap 1 ts [wrapN name] k ts[k].kind wx h h2 (tree_kindB hTP) (fun u hu => by rw [List.mem_singleton] at hu; subst hu; exact ⟨(by show (-1 : Int) ≤ 0; decide), (by show (0 : Int) < 50; decide)⟩) (by omega) hc hcm hTP.2.1 (by simp) hz (fun u hu => by rw [List.mem_singleton] at hu; subst hu; exact ⟨hnm, Nat.zero_le _, fun y hy => absurd hy List.not_mem_nil, Nat.zero_le _⟩))
          have HPK := hid (put_high (ts := ts) (br := [wrapN name]) (e := k) (par := ts[k].kind) (by omega) (Nat.le_refl _) hk htk)
          have HPN := hid (putL_len (ts := ts) (place := k) (parent := ts[k].kind) (br := [wrapN name]) (by omega))
          have HWL := hid (show wrapL ts k name = (putL ts k ts[k].kind [wrapN name]).set (k + 1) (shK (k : Int) ts[k]) by unfold wrapL; rw [htk])
          have HGB := hid (show wrapB ts (k : Int) name = treeB (wrapL ts k name) by unfold wrapB; rw [h1, hE, hB]; rfl)
          have HWN := hid (show (wrapL ts k name).length ≤ 1048576 by rw [wrapL_len hk]; have := hTP.2.1; omega)
          have HWZ := hid (wrapL_sz hk hz hnm)
          rw [HGB.out]
          show Calls _ _ _ _ (TreeAns w (if treeB (wrapL ts k name) then wrapL ts k name else ts) _)
          obtain ⟨P, hP⟩ : ∃ P, wrapL ts k name = P := ⟨_, rfl⟩
          rw [hP] at HWN HWZ HWL ⊢
          have CQ := hid (fun wx aP cP (h : TkRow wx aP P) => cTreeOkS aP cP P wx h HWN.out HWZ.out)
          obtain ⟨B, hBB⟩ : ∃ B, treeB P = B := ⟨_, rfl⟩
          rw [hBB] at CQ ⊢
          have HROW := hid (fun wx (hb : Below w.heap.size w wx) => (HR.out.below hb).kindAt k hk)
          obtain ⟨b, o, ea, -⟩ := HR.out.kindAt k hk
          subst ea
          have HLEN := hid (show (putL ts k ts[k].kind [wrapN name]).length = ts.length + 1 from HPN.out)
          obtain ⟨Q0, hQ0⟩ : ∃ Q0, putL ts k ts[k].kind [wrapN name] = Q0 := ⟨_, rfl⟩
          rw [hQ0] at CP HPK HWL HLEN
          have e0 : parI ts k = ts[k].kind := parI_at hk
          rw [e0] at HROW
          obtain ⟨t, ht⟩ : ∃ t, ts[k] = t := ⟨_, rfl⟩
          rw [ht] at CP HPK HWL HROW hkb
          have hkn : (k : Int) < (ts.length : Int) := by omega
          have h50 : ts.length ≤ 50 := hTP.2.1
          clear hT HG HGB hR hz hP hBB hE hB hTP htk ht hQ0 h1 HPN e0 hc hcm hn
          obtain ⟨n, hnn⟩ : ∃ n, ts.length = n := ⟨_, rfl⟩
          rw [hnn] at C CE CC CP HLEN hkn h50 hk ⊢
          clear hnn
          obtain ⟨R, hRR⟩ : ∃ R, (if B = true then P else ts) = R := ⟨_, rfl⟩
          have HRR := hid hRR
          rw [hRR]
          clear hRR
          obtain ⟨K, hK⟩ : ∃ K, t.kind = K := ⟨_, rfl⟩
          rw [hK] at CP HROW hkb
          obtain ⟨hkb1, hkb2⟩ := hkb
          have CP1 := hid (fun wx g h h2 => CP.out wx g h h2)
          have hone : ([wrapN name] : List Tk).length = 1 := rfl
          rw [hone] at CP1
          go_enter Try.func39, Try.ntmps39
          go_wp2_with fail
          refine C.out.mono ?_
          rintro e w1 ⟨rfl, hb1⟩
          have HB1 := hid hb1
          clear hb1 C
          go_wp2_with fail
          refine (CE.out _ (HR.out.below HB1.out)).mono ?_
          rintro e w2 ⟨rfl, hb2⟩
          have HB2 := hid (bb HB1.out hb2)
          clear hb2 CE
          go_wp2_with fail
          refine (CN.out _).mono ?_
          rintro e w3 ⟨rfl, hb3⟩
          have HB3 := hid (bb HB2.out hb3)
          clear hb3 CN
          obtain ⟨b', o', e', c0, _⟩ := HROW.out _ HB3.out
          obtain ⟨rfl, rfl⟩ : b = b' ∧ o = o' := by cases e'; exact ⟨rfl, rfl⟩
          have HB4 := hid (HB3.out.alloc HB3.out.size (.cells #[.int .i64 0, .string name, .slice none 0 0, .string ⟨#[]⟩] 50))
          have HW4 := hid (wrap_row (heap_alloc_new w3 (.cells #[.int .i64 0, .string name, .slice none 0 0, .string ⟨#[]⟩] 50)))
          clear e'
          go_wp2_with fail
          refine (CP1.out _ _ (HR.out.below HB4.out) HW4.out).mono ?_
          rintro e w5 ⟨v5, rfl, hr5⟩
          have HR5 := hid (RowOf.later HB4.out hr5)
          obtain ⟨g, c5, hv5, hg5, ⟨aa, ca, d0, d1, d2, d3⟩, hfz, hset, _⟩ := HR5.out.put HPK.out
          subst hv5
          have f0 := hfz ((k + 1) * 4)
          have HS := hid (hset (k : Int))
          have hone2 : k + ([wrapN name] : List Tk).length = k + 1 := rfl
          rw [hone2] at d0 HS
          have HS2 := hid (show RowOf w (w5.setCell ⟨g, (k + 1) * 4, none⟩ (.int .i64 (k : Int))) (.slice (some ⟨g, 0, none⟩) Q0.length c5) P by rw [HWL.out]; exact HS.out)
          rw [HLEN.out] at HS2 ⊢
          clear hr5 CP CP1 d1 d2 d3 hfz hset HS HB4 HW4 c0
          obtain ⟨w6, hw6⟩ : ∃ w6, w5.setCell ⟨g, (k + 1) * 4, none⟩ (.int .i64 (k : Int)) = w6 := ⟨_, rfl⟩
          rw [hw6] at HS2
          obtain ⟨a6, c6, hv6, ht6⟩ := HS2.out.tk
          obtain ⟨rfl, hpl, rfl⟩ : some ⟨g, 0, none⟩ = a6 ∧ n + 1 = P.length ∧ c5 = c6 := by injection hv6 with h1 h2 h3; exact ⟨h1, h2, h3⟩
          rw [← hpl] at CQ
          have HT6 := hid ht6
          clear hv6 ht6 hpl
          have hk2 : (k : Int) + 1 < (n : Int) + 1 := by omega
          go_wp2_with fail
          refine (CQ.out _ _ _ HT6.out).mono ?_
          rintro e w7 ⟨rfl, hb7⟩
          have HB7 := hid (bb HS2.out.bel hb7)
          have HR7 := hid (HS2.out.below hb7)
          clear hb7 CQ d0 f0 hw6
          cases B with
          | false =>
            have HF := hid (show R = ts from HRR.out.symm)
            go_wp2_with fail
            refine (CC.out _ (HR.out.below HB7.out)).mono ?_
            rintro e w8 ⟨v8, rfl, hr8⟩
            have HR8 := hid (RowOf.later HB7.out hr8)
            clear hr8 CC
            go_wp2_with fail
            go_ret2
            exact ⟨_, rfl, by rw [HF.out]; exact HR8.out⟩
          | true =>
            have HF := hid (show R = P from HRR.out.symm)
            go_wp2_with fail
            go_ret2
            exact ⟨_, rfl, by rw [HF.out]; exact HR7.out⟩

end Go.Proofs.Ytkejmifkjgpdjaa

namespace Go.Proofs.Ytkejmifkjgpdjaa
open Go.RowKit
set_option linter.unusedVariables false
set_option linter.unusedSimpArgs false

theorem Shape.K_ge (s : Shape) (k : Nat) : ∀ j, j ≤ s.K k j := by
  intro j
  induction j with
  | zero => exact Nat.zero_le _
  | succ j ih =>
    show j + 1 ≤ s.K k j + (3 + 2 * s.len j)
    omega

theorem hold_step {s : Shape} {B i : Nat} {w w' : World} {f : Nat → Tk} {t : Tk} {cur : Array Value} (ok : s.Ok B) (h : s.Holds w f) (hi : i < s.n) (hcur : w.heap[s.R]? = some (.cells cur 76 (0, 0)))
    (hk : KeepB (fun b => b = s.R ∨ 0 < s.len i ∧ b = s.A i) w w')
    (hR : w'.heap[s.R]? = some (.cells (((cur.setIfInBounds (s.o + i * 4) (.int .i64 t.kind)).setIfInBounds (s.o + i * 4 + 1) (.string t.name)).setIfInBounds (s.o + i * 4 + 3) (.string t.text)) 76 (0, 0)))
    (hl : t.attrs.length = s.len i) (ha : 0 < s.len i → ∃ cu, w'.heap[s.A i]? = some (.cells cu 86 (0, 0)) ∧ AtCells cu (s.O i) t.attrs) : s.Holds w' (fun j => if j = i then t else f j) := by
  obtain ⟨cur0, hc0, hr⟩ := h.row
  have ec : cur0 = cur := by
    rw [hcur] at hc0
    simp at hc0
    exact hc0.symm
  subst ec
  have b3 : s.o + i * 4 + 3 < cur0.size := (Array.getElem?_eq_some_iff.1 (hr i hi).c3).1
  refine ⟨⟨_, hR, fun j hj => ?_⟩, fun j hj => ?_, fun j hj hlj => ?_⟩
  · by_cases e : j = i
    · subst e
      simp only [if_true]
      have t2 := (hr j hj).c2
      refine ⟨?_, ?_, ?_, ?_⟩
      · simp [Array.getElem?_setIfInBounds]; omega
      · simp [Array.getElem?_setIfInBounds]; omega
      · simp only [Array.getElem?_setIfInBounds]
        rw [if_neg (by omega), if_neg (by omega), if_neg (by omega), t2, h.len j hj, hl]
      · simp [Array.getElem?_setIfInBounds]; omega
    · simp only [if_neg e]
      have t0 := hr j hj
      refine ⟨?_, ?_, ?_, ?_⟩
      · simp only [Array.getElem?_setIfInBounds]; rw [if_neg (by omega), if_neg (by omega), if_neg (by omega)]; exact t0.c0
      · simp only [Array.getElem?_setIfInBounds]; rw [if_neg (by omega), if_neg (by omega), if_neg (by omega)]; exact t0.c1
      · simp only [Array.getElem?_setIfInBounds]; rw [if_neg (by omega), if_neg (by omega), if_neg (by omega)]; exact t0.c2
      · simp only [Array.getElem?_setIfInBounds]; rw [if_neg (by omega), if_neg (by omega), if_neg (by omega)]; exact t0.c3
  · by_cases e : j = i
    · subst e; simpa using hl
    · simp only [if_neg e]; exact h.len j hj
  · by_cases e : j = i
    · subst e
      simp only [if_true]
      exact ha hlj
    · simp only [if_neg e]
      obtain ⟨cu, hcu, hac⟩ := h.ats j hj hlj
      refine ⟨cu, (hk.block _ (lt_of_heap hcu) ?_).trans hcu, hac⟩
      rintro (x | ⟨x, y⟩)
      · exact (ok.at_ j hj hlj).2.2 x
      · exact ok.apart j i hj hi e hlj x y

end Go.Proofs.Ytkejmifkjgpdjaa

namespace Go.Proofs.Ytkejmifkjgpdjaa.Nd
open Go.RowKit
set_option linter.unusedVariables false
set_option linter.unusedSimpArgs false

/-- The tokens f lie there. -/
structure HoldsN (s : Shape) (w : World) (f : Nat → Tk) : Prop where
  row : ∃ cur, w.heap[s.R]? = some (.cells cur 50 (0, 0)) ∧ ∀ j, j < s.n → TkCells cur (s.o + j * 4) (f j) (s.aa j) (s.C j)
  len : ∀ j, j < s.n → (f j).attrs.length = s.len j
  ats : ∀ j, j < s.n → 0 < s.len j → ∃ cu, w.heap[s.A j]? = some (.cells cu 86 (0, 0)) ∧ AtCells cu (s.O j) (f j).attrs

theorem HoldsN.keep {s : Shape} {w w' : World} {f : Nat → Tk} {p : Nat → Prop} (h : HoldsN s w f) (k : KeepB p w w') (h1 : ¬ p s.R) (h2 : ∀ j, j < s.n → 0 < s.len j → ¬ p (s.A j)) : HoldsN s w' f := by
  obtain ⟨cur, hc, hr⟩ := h.row
  refine ⟨⟨cur, (k.block _ (lt_of_heap hc) h1).trans hc, hr⟩, h.len, fun j hj hl => ?_⟩
  obtain ⟨cu, hcu, ha⟩ := h.ats j hj hl
  exact ⟨cu, (k.block _ (lt_of_heap hcu) (h2 j hj hl)).trans hcu, ha⟩
-- over type 50

theorem HoldsN.below {s : Shape} {w w' : World} {f : Nat → Tk} (h : HoldsN s w f) (k : Below w.heap.size w w') : HoldsN s w' f :=
  h.keep (KeepB.of_below (fun _ => False) k) (fun x => x) (fun _ _ _ x => x)
-- over type 50

theorem HoldsN.atRow {s : Shape} {w : World} {f : Nat → Tk} {B : Nat} (h : HoldsN s w f) (ok : s.Ok B) (j : Nat) (hj : j < s.n) : AtRow w (s.aa j) (f j).attrs := by
  intro m hm
  have hl : 0 < s.len j := by rw [← h.len j hj]; omega
  obtain ⟨cu, hcu, ha⟩ := h.ats j hj hl
  obtain ⟨c1, c2⟩ := ha m hm
  exact ⟨s.A j, s.O j, (ok.at_ j hj hl).1, lt_of_heap hcu, by rw [Lib.cell_of_heap hcu]; exact c1, by rw [Lib.cell_of_heap hcu]; exact c2⟩
-- over type 50

theorem HoldsN.tkRow {s : Shape} {w : World} {f : Nat → Tk} {B : Nat} {ts : List Tk} (h : HoldsN s w f) (ok : s.Ok B) (hn : ts.length = s.n) (hf : ∀ j (hj : j < ts.length), f j = ts[j]) : TkRow w (some ⟨s.R, s.o, none⟩) ts := by
  intro j hj
  obtain ⟨cur, hc, hr⟩ := h.row
  have hjn : j < s.n := by omega
  have t := hr j hjn
  have ha := h.atRow ok j hjn
  rw [hf j hj] at t ha
  exact ⟨s.R, s.o, s.aa j, s.C j, rfl, lt_of_heap hc, by rw [Lib.cell_of_heap hc]; exact t.c0, by rw [Lib.cell_of_heap hc]; exact t.c1, by rw [Lib.cell_of_heap hc]; exact t.c2, by rw [Lib.cell_of_heap hc]; exact t.c3, ha⟩
-- over type 50

theorem hold_step {s : Shape} {B i : Nat} {w w' : World} {f : Nat → Tk} {t : Tk} {cur : Array Value} (ok : s.Ok B) (h : HoldsN s w f) (hi : i < s.n) (hcur : w.heap[s.R]? = some (.cells cur 50 (0, 0)))
    (hk : KeepB (fun b => b = s.R ∨ 0 < s.len i ∧ b = s.A i) w w')
    (hR : w'.heap[s.R]? = some (.cells (((cur.setIfInBounds (s.o + i * 4) (.int .i64 t.kind)).setIfInBounds (s.o + i * 4 + 1) (.string t.name)).setIfInBounds (s.o + i * 4 + 3) (.string t.text)) 50 (0, 0)))
    (hl : t.attrs.length = s.len i) (ha : 0 < s.len i → ∃ cu, w'.heap[s.A i]? = some (.cells cu 86 (0, 0)) ∧ AtCells cu (s.O i) t.attrs) : HoldsN s w' (fun j => if j = i then t else f j) := by
  obtain ⟨cur0, hc0, hr⟩ := h.row
  have ec : cur0 = cur := by
    rw [hcur] at hc0
    simp at hc0
    exact hc0.symm
  subst ec
  have b3 : s.o + i * 4 + 3 < cur0.size := (Array.getElem?_eq_some_iff.1 (hr i hi).c3).1
  refine ⟨⟨_, hR, fun j hj => ?_⟩, fun j hj => ?_, fun j hj hlj => ?_⟩
  · by_cases e : j = i
    · subst e
      simp only [if_true]
      have t2 := (hr j hj).c2
      refine ⟨?_, ?_, ?_, ?_⟩
      · simp [Array.getElem?_setIfInBounds]; omega
      · simp [Array.getElem?_setIfInBounds]; omega
      · simp only [Array.getElem?_setIfInBounds]
        rw [if_neg (by omega), if_neg (by omega), if_neg (by omega), t2, h.len j hj, hl]
      · simp [Array.getElem?_setIfInBounds]; omega
    · simp only [if_neg e]
      have t0 := hr j hj
      refine ⟨?_, ?_, ?_, ?_⟩
      · simp only [Array.getElem?_setIfInBounds]; rw [if_neg (by omega), if_neg (by omega), if_neg (by omega)]; exact t0.c0
      · simp only [Array.getElem?_setIfInBounds]; rw [if_neg (by omega), if_neg (by omega), if_neg (by omega)]; exact t0.c1
      · simp only [Array.getElem?_setIfInBounds]; rw [if_neg (by omega), if_neg (by omega), if_neg (by omega)]; exact t0.c2
      · simp only [Array.getElem?_setIfInBounds]; rw [if_neg (by omega), if_neg (by omega), if_neg (by omega)]; exact t0.c3
  · by_cases e : j = i
    · subst e; simpa using hl
    · simp only [if_neg e]; exact h.len j hj
  · by_cases e : j = i
    · subst e
      simp only [if_true]
      exact ha hlj
    · simp only [if_neg e]
      obtain ⟨cu, hcu, hac⟩ := h.ats j hj hlj
      refine ⟨cu, (hk.block _ (lt_of_heap hcu) ?_).trans hcu, hac⟩
      rintro (x | ⟨x, y⟩)
      · exact (ok.at_ j hj hlj).2.2 x
      · exact ok.apart j i hj hi e hlj x y

set_option maxRecDepth 8000 in
set_option maxHeartbeats 4000000 in
theorem cMarkNodeH (s : Shape) (B cap k : Nat) (f : Nat → Tk) (w : World) (ok : s.Ok B) (hh : HoldsN s w f) (hk : s.K k s.n ≤ 100000000) :
    Calls Try.prog 12 #[.slice (some ⟨s.R, s.o, none⟩) s.n cap, .int .i64 k] w fun e w' => e = .returned (.int .i64 (s.K k s.n : Nat)) ∧ HoldsN s w' (fun j => mkTk (s.K k j) (s.len j)) ∧ KeepB s.Has w w' := by
  have OK := hid ok
  have HH := hid hh
  clear ok hh
  obtain ⟨n, hn⟩ : ∃ n, s.n = n := ⟨_, rfl⟩
  have HN := hid hn
  have HK := hid hk
  have hnb : n ≤ 100000000 := by have := s.K_ge k s.n; omega
  rw [hn]
  obtain ⟨R, hR⟩ : ∃ R, s.R = R := ⟨_, rfl⟩
  obtain ⟨o, ho⟩ : ∃ o, s.o = o := ⟨_, rfl⟩
  have HRR := hid hR
  have HO := hid ho
  rw [hR, ho]
  clear hn hk hR ho
  have HE := hid (show HoldsN s w (fun j => if j < 0 then mkTk (s.K k j) (s.len j) else f j) by simpa using HH.out)
  clear HH
  go_enter Try.func12, Try.ntmps12
  go_wp2
  go_loopw [1, 5] (fun x y wr => ∃ i K : Nat, x = .int .i64 (K : Int) ∧ y = .int .i64 (i : Int) ∧ i ≤ n ∧ Hid (K = s.K k i) ∧ Hid (HoldsN s wr (fun j => if j < i then mkTk (s.K k j) (s.len j) else f j)) ∧ Hid (KeepB s.Has w wr)) (fun _ y _ => n - (intOf y).toNat)
  case atStart => exact ⟨0, k, rfl, rfl, Nat.zero_le _, rfl, HE.out, KeepB.refl _ _⟩
  case round =>
    clear HE
    obtain ⟨i, K, rfl, rfl, hi, HKi, HH, HW⟩ := hrel
    by_cases hlt : i < n
    · have his : i < s.n := by rw [HN.out]; exact hlt
      have hin : (i : Int) < (n : Int) := by omega
      obtain ⟨L, hL⟩ : ∃ L, s.len i = L := ⟨_, rfl⟩
      have HL := hid hL
      have HK1 := hid (show s.K k (i + 1) = K + (3 + 2 * L) by rw [HKi.out, ← hL]; rfl)
      have hKb : K + 3 + 2 * L ≤ 100000000 := by
        have h1 := s.K_le k (i + 1) s.n (by omega)
        have h2 := HK.out
        rw [HK1.out] at h1
        omega
      obtain ⟨cur, hcur, hr⟩ := HH.out.row
      have HC := hid hcur
      have hri := hr i his
      simp only [if_neg (Nat.lt_irrefl i)] at hri
      have b3 : o + i * 4 + 3 < cur.size := by have := (Array.getElem?_eq_some_iff.1 hri.c3).1; rw [HO.out] at this; exact this
      have t2 : cur[o + i * 4 + 2]? = some (.slice (s.aa i) L (s.C i)) := by
        have := hri.c2
        have hl := HH.out.len i his
        simp only [if_neg (Nat.lt_irrefl i)] at hl
        rw [HO.out, hl, hL] at this
        exact this
      rw [HRR.out] at hcur
      have HCR := hid hcur
      have T2 := hid t2
      have HA0 := hid (show 0 < L → ∃ cu : Array Value, wr.heap[s.A i]? = some (.cells cu 86 (0, 0)) ∧ s.O i + L * 2 ≤ cu.size from fun h => by
        obtain ⟨cu, h1, h2⟩ := HH.out.ats i his (by rw [hL]; exact h)
        have hl := HH.out.len i his
        simp only [if_neg (Nat.lt_irrefl i)] at hl h2
        rw [hL] at hl
        have := (Array.getElem?_eq_some_iff.1 (h2 (L - 1) (by omega)).2).1
        exact ⟨cu, h1, by omega⟩)
      have OKi := hid (fun h : 0 < L => OK.out.at_ i his (by rw [hL]; exact h))
      clear hr hri hL t2
      obtain ⟨o0, k0⟩ := cell_there hcur (i := o + i * 4) (by omega)
      have f0 : wr.frozen? ⟨R, o + i * 4, none⟩ = false := Lib.frozen_of_heap hcur _
      have H1 := hid (heap_set (i := o + i * 4) hcur (.int .i64 (K : Int)))
      have W1 := hid (KeepB.of_set (p := fun b => b = R) wr (g := R) (o + i * 4) (.int .i64 (K : Int)) rfl)
      obtain ⟨w1, hw1⟩ : ∃ w1, wr.setCell ⟨R, o + i * 4, none⟩ (.int .i64 (K : Int)) = w1 := ⟨_, rfl⟩
      rw [hw1] at H1 W1
      have C1 := fun w => cMarkText (K + 1) (by omega) w
      obtain ⟨X, hX⟩ : ∃ X, markS (K + 1) = X := ⟨_, rfl⟩
      have HX := hid hX
      rw [hX] at C1
      clear hX hcur
      go_wp2_with fail
      refine (C1 _).mono ?_
      rintro e w2 ⟨rfl, hb2⟩
      have H2 := hid (blk_below H1.out hb2)
      have W2 := hid (W1.out.trans (KeepB.of_below _ hb2))
      obtain ⟨o1, k1⟩ := cell_there H2.out (i := o + i * 4 + 1) (by simp; omega)
      have f1 : w2.frozen? ⟨R, o + i * 4 + 1, none⟩ = false := Lib.frozen_of_heap H2.out _
      have H3 := hid (heap_set (i := o + i * 4 + 1) H2.out (.string X))
      have W3 := hid (W2.out.trans (KeepB.of_set (p := fun b => b = R) w2 (g := R) (o + i * 4 + 1) (.string X) rfl))
      clear hb2 C1 hw1 k0 f0 H1 W1
      obtain ⟨w3, hw3⟩ : ∃ w3, w2.setCell ⟨R, o + i * 4 + 1, none⟩ (.string X) = w3 := ⟨_, rfl⟩
      rw [hw3] at H3 W3
      have k2 : w3.cell? ⟨R, o + i * 4 + 2, none⟩ = some (.slice (s.aa i) L (s.C i)) := by
        rw [Lib.cell_of_heap H3.out]
        simp only [Array.getElem?_setIfInBounds]
        rw [if_neg (by omega), if_neg (by omega)]
        exact T2.out
      have CM : Calls Try.prog 28 #[.slice (s.aa i) L (s.C i), .int .i64 ((K + 2 : Nat) : Int)] w3 fun e w' => e = .returned (.int .i64 ((K + 2 + 2 * L : Nat) : Int)) ∧ (w'.heap[R]? = w3.heap[R]? ∧ (0 < L → ∃ cu, w'.heap[s.A i]? = some (.cells cu 86 (0, 0)) ∧ AtCells cu (s.O i) (mkAts (K + 2) L))) ∧ KeepB (fun b => b = R ∨ 0 < L ∧ b = s.A i) w3 w' := by
        by_cases hL0 : L = 0
        · subst hL0
          refine (cMarkAttr0 (s.aa i) (s.C i) (K + 2) w3).mono ?_
          rintro e w' ⟨rfl, rfl⟩
          exact ⟨rfl, ⟨rfl, fun h => by omega⟩, KeepB.refl _ _⟩
        · obtain ⟨a1, a2, a3⟩ := OKi.out (by omega)
          obtain ⟨cu, hcu, hsz⟩ := HA0.out (by omega)
          have hcu3 : w3.heap[s.A i]? = some (.cells cu 86 (0, 0)) := (W3.out.block _ (lt_of_heap hcu) (fun e => a3 (by rw [HRR.out]; exact e))).trans hcu
          rw [a1]
          refine (cMarkAttrS (s.A i) (s.O i) (s.C i) L (K + 2) cu w3 hcu3 hsz (by omega)).mono ?_
          rintro e w' ⟨rfl, ⟨cu', h1, _, h3⟩, hg⟩
          exact ⟨rfl, ⟨hg.block R (lt_of_heap H3.out) (fun e => a3 (by rw [HRR.out, ← Option.some.inj e])), fun _ => ⟨cu', h1, marksA_cells h3⟩⟩, KeepB.of_grown hg (.inr ⟨by omega, rfl⟩)⟩
      have W3' := hid (W3.out.mono (q := fun b => b = R ∨ 0 < L ∧ b = s.A i) (fun b e => .inl e))
      have hw2c : ((K : Int) + 1) + 1 = ((K + 2 : Nat) : Int) := by omega
      clear HA0 W2 W3 H2
      go_wp2_with fail
      refine CM.mono ?_
      rintro e w4 ⟨rfl, ⟨hr4, ha4⟩, hk4⟩
      have H4 := hid (hr4.trans H3.out)
      have HA4 := hid ha4
      have W4 := hid (W3'.out.trans hk4)
      clear hr4 ha4 hk4 CM k2 W3' H3 hw3 k1 f1
      have C5 := fun w => cMarkText (K + 2 + 2 * L) (by omega) w
      obtain ⟨Y, hY⟩ : ∃ Y, markS (K + 2 + 2 * L) = Y := ⟨_, rfl⟩
      have HY := hid hY
      rw [hY] at C5
      clear hY
      obtain ⟨M, hM⟩ : ∃ M, K + 2 + 2 * L = M := ⟨_, rfl⟩
      have HM := hid hM
      have hMb : M ≤ 100000000 := by omega
      rw [hM] at C5 ⊢
      clear hM
      go_wp2_with fail
      refine (C5 _).mono ?_
      rintro e w5 ⟨rfl, hb5⟩
      have H5 := hid (blk_below H4.out hb5)
      have HA5 := hid (show 0 < L → ∃ cu, w5.heap[s.A i]? = some (.cells cu 86 (0, 0)) ∧ AtCells cu (s.O i) (mkAts (K + 2) L) from fun h => by
        obtain ⟨cu, h1, h2⟩ := HA4.out h
        exact ⟨cu, blk_below h1 hb5, h2⟩)
      have W5 := hid (W4.out.trans (KeepB.of_below _ hb5))
      obtain ⟨o3, k3⟩ := cell_there H5.out (i := o + i * 4 + 3) (by simp; omega)
      have f3 : w5.frozen? ⟨R, o + i * 4 + 3, none⟩ = false := Lib.frozen_of_heap H5.out _
      have H6 := hid (heap_set (i := o + i * 4 + 3) H5.out (.string Y))
      have W6 := hid (W5.out.trans (KeepB.of_set (p := fun b => b = R ∨ 0 < L ∧ b = s.A i) w5 (g := R) (o + i * 4 + 3) (.string Y) (.inl rfl)))
      have HA6 := hid (show 0 < L → ∃ cu, (w5.setCell ⟨R, o + i * 4 + 3, none⟩ (.string Y)).heap[s.A i]? = some (.cells cu 86 (0, 0)) ∧ AtCells cu (s.O i) (mkAts (K + 2) L) from fun h => by
        obtain ⟨cu, h1, h2⟩ := HA5.out h
        exact ⟨cu, (Below.heap_setCell w5 _ _ _ (by show ¬ s.A i = R; rw [← HRR.out]; exact (OKi.out h).2.2)).trans h1, h2⟩)
      have HF := hid (show HoldsN s (w5.setCell ⟨R, o + i * 4 + 3, none⟩ (.string Y)) (fun j => if j = i then mkTk K L else if j < i then mkTk (s.K k j) (s.len j) else f j) from
        hold_step OK.out HH.out his HC.out (by rw [HRR.out, HL.out]; exact W6.out) (by rw [HRR.out, HO.out]; show _ = some (Obj.cells (((cur.setIfInBounds (o + i * 4) (.int .i64 (K : Int))).setIfInBounds (o + i * 4 + 1) (.string (markS (K + 1)))).setIfInBounds (o + i * 4 + 3) (.string (markS (K + 2 + 2 * L)))) _ _); rw [HX.out, HY.out]; exact H6.out)
          (by rw [HL.out]; exact mkAts_len _ _) (by rw [HL.out]; exact HA6.out))
      have HF2 := hid (show HoldsN s (w5.setCell ⟨R, o + i * 4 + 3, none⟩ (.string Y)) (fun j => if j < i + 1 then mkTk (s.K k j) (s.len j) else f j) from by
        have e : (fun j => if j < i + 1 then mkTk (s.K k j) (s.len j) else f j) = (fun j => if j = i then mkTk K L else if j < i then mkTk (s.K k j) (s.len j) else f j) := by
          funext j
          by_cases h1 : j = i
          · subst h1; rw [if_pos (by omega), if_pos rfl, HKi.out, HL.out]
          · rw [if_neg h1]
            by_cases h2 : j < i
            · rw [if_pos (by omega), if_pos h2]
            · rw [if_neg (by omega), if_neg h2]
        rw [e]
        exact HF.out)
      have HW6 := hid (HW.out.trans (W6.out.mono (q := s.Has) (fun b e => by
        rcases e with e | ⟨e1, e2⟩
        · exact .inl (e.trans HRR.out.symm)
        · exact .inr ⟨i, his, by rw [HL.out]; exact e1, e2⟩)))
      clear HF HA4 HA5 HA6 W4 W5 W6 H4 H5 C5 hb5 HC HCR T2
      go_wp2_with fail
      go_roundw
      case rel => exact ⟨i + 1, M + 1, by go_num, by go_num, by omega, (show M + 1 = s.K k (i + 1) by rw [HK1.out, ← HM.out]; omega), HF2.out, HW6.out⟩
      case measure => simp [intOf]; omega
    · have hie : i = n := by omega
      subst hie
      have HF := hid (show HoldsN s wr (fun j => mkTk (s.K k j) (s.len j)) from ⟨by
        obtain ⟨cur, hc, hr⟩ := HH.out.row
        exact ⟨cur, hc, fun j hj => by have := hr j hj; rw [HN.out] at hj; simp only [if_pos hj] at this; exact this⟩, fun j hj => by
        have := HH.out.len j hj; rw [HN.out] at hj; simp only [if_pos hj] at this; exact this, fun j hj hl => by
        have := HH.out.ats j hj hl; rw [HN.out] at hj; simp only [if_pos hj] at this; exact this⟩)
      go_wp2_with fail
      go_ret
      exact ⟨by rw [HKi.out]; rfl, HF.out, HW.out⟩

theorem cMarkNodeS (s : Shape) (B cap k : Nat) (f : Nat → Tk) (w : World) (ok : s.Ok B) (hh : HoldsN s w f) (hk : s.K k s.n ≤ 100000000) :
    Calls Try.prog 12 #[.slice (some ⟨s.R, s.o, none⟩) s.n cap, .int .i64 k] w fun e w' => e = .returned (.int .i64 (s.K k s.n : Nat)) ∧ HoldsN s w' (fun j => mkTk (s.K k j) (s.len j)) ∧ KeepB (fun b => B ≤ b) w w' :=
  (cMarkNodeH s B cap k f w ok hh hk).mono fun _ _ ⟨h1, h2, h3⟩ => ⟨h1, h2, h3.mono fun _ hb => ok.has hb⟩

set_option maxRecDepth 8000 in
set_option maxHeartbeats 4000000 in
theorem cHeldNodeS (s : Shape) (B cap k : Nat) (w : World) (ok : s.Ok B) (hh : HoldsN s w (fun j => mkTk (s.K k j) (s.len j))) (hk : s.K k s.n ≤ 100000000) :
    Calls Try.prog 14 #[.slice (some ⟨s.R, s.o, none⟩) s.n cap, .int .i64 k] w fun e w' => e = .returned (.int .i64 (s.K k s.n : Nat)) ∧ Below w.heap.size w w' := by
  have OK := hid ok
  have HH := hid hh
  clear ok hh
  obtain ⟨n, hn⟩ : ∃ n, s.n = n := ⟨_, rfl⟩
  have HN := hid hn
  have HK := hid hk
  have hnb : n ≤ 100000000 := by have := s.K_ge k s.n; omega
  rw [hn]
  obtain ⟨R, hR⟩ : ∃ R, s.R = R := ⟨_, rfl⟩
  obtain ⟨o, ho⟩ : ∃ o, s.o = o := ⟨_, rfl⟩
  have HRR := hid hR
  have HO := hid ho
  rw [hR, ho]
  clear hn hk hR ho
  go_enter Try.func14, Try.ntmps14
  go_wp2
  go_loopw [1, 5] (fun x y wr => ∃ i K : Nat, x = .int .i64 (K : Int) ∧ y = .int .i64 (i : Int) ∧ i ≤ n ∧ Hid (K = s.K k i) ∧ Hid (Below w.heap.size w wr)) (fun _ y _ => n - (intOf y).toNat)
  case atStart => exact ⟨0, k, rfl, rfl, Nat.zero_le _, rfl, Below.refl _ _⟩
  case round =>
    obtain ⟨i, K, rfl, rfl, hi, HKi, HB⟩ := hrel
    by_cases hlt : i < n
    · have his : i < s.n := by rw [HN.out]; exact hlt
      have hin : (i : Int) < (n : Int) := by omega
      obtain ⟨L, hL⟩ : ∃ L, s.len i = L := ⟨_, rfl⟩
      have HL := hid hL
      have HK1 := hid (show s.K k (i + 1) = K + (3 + 2 * L) by rw [HKi.out, ← hL]; rfl)
      have hKb : K + 3 + 2 * L ≤ 100000000 := by
        have h1 := s.K_le k (i + 1) s.n (by omega)
        have h2 := HK.out
        rw [HK1.out] at h1
        omega
      have HHr := hid (HH.out.below HB.out)
      obtain ⟨cur, hcur, hr⟩ := HHr.out.row
      have t := hr i his
      have har := HHr.out.atRow OK.out i his
      rw [← HKi.out, HL.out] at t har
      rw [HRR.out] at hcur
      rw [HO.out] at t
      have hb : R < wr.heap.size := lt_of_heap hcur
      have c0 : wr.cell? ⟨R, o + i * 4, none⟩ = some (.int .i64 (K : Int)) := by rw [Lib.cell_of_heap hcur]; exact t.c0
      have c1 : wr.cell? ⟨R, o + i * 4 + 1, none⟩ = some (.string (markS (K + 1))) := by rw [Lib.cell_of_heap hcur]; exact t.c1
      have c2 : wr.cell? ⟨R, o + i * 4 + 2, none⟩ = some (.slice (s.aa i) L (s.C i)) := by
        rw [Lib.cell_of_heap hcur]
        have := t.c2
        rw [show (mkTk K L).attrs.length = L from mkAts_len _ _] at this
        exact this
      have c3 : wr.cell? ⟨R, o + i * 4 + 3, none⟩ = some (.string (markS (K + 2 + 2 * L))) := by rw [Lib.cell_of_heap hcur]; exact t.c3
      have HAR := hid (show AtRow wr (s.aa i) (mkAts (K + 2) L) from har)
      have C1 := fun w => cMarkText (K + 1) (by omega) w
      have CA := fun (w : World) (h : AtRow w (s.aa i) (mkAts (K + 2) L)) => cHeldAttrS (s.aa i) (s.C i) (K + 2) (mkAts (K + 2) L) w h (fun j hj => mkAts_get _ _ j hj) (by rw [mkAts_len]; omega)
      have C3 := fun w => cMarkText (K + 2 + 2 * L) (by omega) w
      rw [mkAts_len] at CA
      have s1 := markS_size (K + 1)
      have s3 := markS_size (K + 2 + 2 * L)
      obtain ⟨X, hX⟩ : ∃ X, markS (K + 1) = X := ⟨_, rfl⟩
      obtain ⟨Y, hY⟩ : ∃ Y, markS (K + 2 + 2 * L) = Y := ⟨_, rfl⟩
      rw [hX] at c1 C1 s1
      rw [hY] at c3 C3 s3
      obtain ⟨M, hM⟩ : ∃ M, K + 2 + 2 * L = M := ⟨_, rfl⟩
      have HM := hid hM
      have hMb : M ≤ 100000000 := by omega
      rw [hM] at CA C3 s3
      have q1 : (X.toList != X.toList) = false := by simp
      have q3 : (Y.toList != Y.toList) = false := by simp
      clear hr t har hcur hX hY hM hL
      obtain ⟨d0, d1, d2, d3⟩ := quad_bw hb c0 c1 c2 c3
      have HNB := hid (bw_any wr)
      go_wp2_with fail
      haveI := HNB.out
      refine wp_region_below (by kernel_rfl) (by kernel_rfl) (Below.refl wr.heap.size wr) ?_
      repeat (go_big_quiet_step ((go_at_call 27; exact calls_bw _ (C1 _))))
      refine wpQuiet_nil ?_
      intro w2 hw'
      obtain ⟨⟨wx, hb2⟩, hw''⟩ := hw'
      subst hw''
      have HB2 := hid (bb HB.out hb2)
      have HAR2 := hid (HAR.out.below hb2)
      have e2 : w2.cell? ⟨R, o + i * 4 + 2, none⟩ = some (.slice (s.aa i) L (s.C i)) := (hb2.cell (p := ⟨R, o + i * 4 + 2, none⟩) hb).trans c2
      have e3 : w2.cell? ⟨R, o + i * 4 + 3, none⟩ = some (.string Y) := (hb2.cell (p := ⟨R, o + i * 4 + 3, none⟩) hb).trans c3
      have hb' : R < w2.heap.size := Nat.lt_of_lt_of_le hb hb2.size
      clear this HNB d0 d1 d2 d3 c0 c1 c2 c3 C1 hb2 HAR
      go_wp2_with fail
      refine (CA _ HAR2.out).mono ?_
      rintro e w3 ⟨rfl, hb3⟩
      have HB3 := hid (bb HB2.out hb3)
      have e3' : w3.cell? ⟨R, o + i * 4 + 3, none⟩ = some (.string Y) := (hb3.cell (p := ⟨R, o + i * 4 + 3, none⟩) hb').trans e3
      have hb'' : R < w3.heap.size := Nat.lt_of_lt_of_le hb' hb3.size
      clear CA hb3 e2 e3
      have d3 := fun p : BW w3 => (p.h.cell (p := ⟨R, o + i * 4 + 3, none⟩) hb'').trans e3'
      have HNB := hid (bw_any w3)
      go_wp2_with fail
      haveI := HNB.out
      refine wp_region_below (by kernel_rfl) (by kernel_rfl) (Below.refl w3.heap.size w3) ?_
      repeat (go_big_quiet_step ((go_at_call 27; exact calls_bw _ (C3 _))))
      refine wpQuiet_nil ?_
      intro w4 hw'
      obtain ⟨⟨wx, hb4⟩, hw''⟩ := hw'
      subst hw''
      have HB4 := hid (bb HB3.out hb4)
      clear this HNB d3 C3 hb4 e3'
      go_wp2_with fail
      go_roundw
      case rel => exact ⟨i + 1, M + 1, by go_num, by go_num, by omega, (show M + 1 = s.K k (i + 1) by rw [HK1.out, ← HM.out]; omega), HB4.out⟩
      case measure => simp [intOf]; omega
    · have hie : i = n := by omega
      subst hie
      go_wp2_with fail
      go_ret
      exact ⟨by rw [HKi.out]; rfl, HB.out⟩

end Go.Proofs.Ytkejmifkjgpdjaa.Nd
