/- Contracts of the specification's l10Put, Grafted. Rows joined: a row of others' nodes made one's own, two rows of one's own made one. Contracts of l8Kids, KidsOf, l8Text and TextIn of the specification. -/
import Derived.Test.YtikplfghepojiaaM11
import Derived.Test.YtikplfghepojiaaM8
import Derived.Test.YtikplfghepojiaaM9
import Derived.OwnWalk
namespace Go.Proofs.Ytikplfghepojiaa
open Go.RowKit
set_option linter.unusedVariables false
set_option linter.unusedSimpArgs false

theorem tk_take {w : World} {a : Option Addr} {ts : List Tk} (h : TkRow w a ts) (m : Nat) : TkRow w a (ts.take m) := by
  intro j hj
  rw [List.length_take] at hj
  obtain ⟨b, o, aa, ca, e, hb, q⟩ := h j (by omega)
  rw [List.getElem_take]
  exact ⟨b, o, aa, ca, e, hb, q⟩

theorem sz_take {ts : List Tk} {b : Nat} (h : TksSz b ts) (m : Nat) : TksSz b (ts.take m) := fun t ht => h t (List.mem_of_mem_take ht)

/-- Parents that are small. -/
def KindB (ts : List Tk) : Prop := ∀ t ∈ ts, -1 ≤ t.kind ∧ t.kind < 50

theorem tree_kindB {ts : List Tk} (hT : TreeP ts) : KindB ts := fun t ht => by
  obtain ⟨i, hi, rfl⟩ := List.getElem_of_mem ht
  exact tree_kind hT (List.getElem?_eq_getElem hi)

set_option maxRecDepth 4000 in
set_option maxHeartbeats 8000000 in
theorem cPutL (a a2 : Option Addr) (cap cap2 : Nat) (ts br : List Tk) (e0 : Nat) (par : Int) (w : World) (hR : TkRow w a ts) (hR2 : TkRow w a2 br) (hK : KindB ts) (hK2 : KindB br) (he : e0 ≤ ts.length) (hc : ts.length ≤ cap) (hcm : cap ≤ maxLen) (hn : ts.length ≤ 50) (hn2 : br.length ≤ 50) (hz : TksSz 1048576 ts) (hz2 : TksSz 1048576 br) :
    Calls Try.prog 63 #[.slice a ts.length cap, .int .i64 (e0 : Int), .int .i64 par, .slice a2 br.length cap2] w fun e' w' => ∃ v, e' = .returned v ∧ RowOf w w' v (putL ts e0 par br) := by
  have HR := hid hR
  have HZ := hid hz
  have HR2 := hid hR2
  have HZ2 := hid hz2
  have HK := hid hK
  have HK2 := hid hK2
  unfold maxLen at hcm
  have CT := hid (cCopyT a cap (ts.take e0) w (tk_take hR e0) (by rw [List.length_take]; omega) (sz_take hz e0))
  have hte : (ts.take e0).length = e0 := by rw [List.length_take]; omega
  rw [hte] at CT
  have HPT := hid (show putL ts e0 par br = (ts.take e0 ++ segN (fun i t => if i = 0 then par else t.kind + (e0 : Int)) br 0 br.length) ++ segN (fun _ t => if (e0 : Int) ≤ t.kind then t.kind + (br.length : Int) else t.kind) ts e0 (ts.length - e0) by unfold putL; rw [segN_same e0 he])
  rw [HPT.out]
  obtain ⟨n2, hnn2⟩ : ∃ n2, br.length = n2 := ⟨_, rfl⟩
  have HN2 := hid hnn2
  obtain ⟨n, hnn⟩ : ∃ n, ts.length = n := ⟨_, rfl⟩
  have HN := hid hnn
  rw [hnn2] at hn2 ⊢
  rw [hnn] at hn he hc ⊢
  obtain ⟨L0, hL0⟩ : ∃ L0, ts.take e0 ++ segN (fun i t => if i = 0 then par else t.kind + (e0 : Int)) br 0 n2 = L0 := ⟨_, rfl⟩
  have HL0 := hid (show L0.length ≤ 100 by rw [← hL0, List.length_append, List.length_take, segN_len n2 (by rw [hnn2]; omega)]; omega)
  have HE0 := hid hL0
  rw [hL0]
  clear hL0
  clear hR hz hR2 hz2 hK hK2 hte HPT hnn hnn2
  have hec : (e0 : Int) ≤ (cap : Int) := by omega
  go_enter Try.func63, Try.ntmps63
  go_wp2_with fail
  refine CT.out.mono ?_
  rintro e1 w1 ⟨v1, rfl, hr1⟩
  have HX0 := hid hr1
  clear hr1 CT
  go_wp2_with fail
  go_loopw [9, 10] (fun v k wr => ∃ i : Nat, k = .int .i64 (i : Int) ∧ i ≤ n2 ∧ Hid (RowOf w wr v (ts.take e0 ++ segN (fun i t => if i = 0 then par else t.kind + (e0 : Int)) br 0 i))) (fun _ k _ => n2 - (intOf k).toNat)
  case atStart => exact ⟨0, rfl, Nat.zero_le _, by show RowOf _ _ _ (_ ++ []); rw [List.append_nil]; exact HX0.out⟩
  case round =>
    clear HX0
    obtain ⟨i, rfl, hi, HX⟩ := hrel
    by_cases hlt : i < n2
    · have his : i < br.length := by rw [HN2.out]; exact hlt
      have hin : (i : Int) < (n2 : Int) := by omega
      have HTS := hid (segN_next (f := fun i t => if i = 0 then par else t.kind + (e0 : Int)) (ts := br) (k := 0) (m := i) (t := br[i]) (by rw [Nat.zero_add]; exact seg_of his))
      rw [Nat.zero_add] at HTS
      have HLT := hid (show (ts.take e0 ++ segN (fun i t => if i = 0 then par else t.kind + (e0 : Int)) br 0 i).length ≤ 1048576 by rw [List.length_append, List.length_take, segN_len i (by omega)]; omega)
      have hkb := HK2.out _ (List.getElem_mem his)
      have HZT := hid (HZ2.out _ (List.getElem_mem his))
      obtain ⟨b, o, aa, ca, e', hb, q0, q1, q2, q3, hA⟩ := (HR2.out.below HX.out.bel) i his
      subst e'
      have HAT := hid hA
      obtain ⟨t, ht⟩ : ∃ t, br[i] = t := ⟨_, rfl⟩
      rw [ht] at q0 q1 q2 q3 HAT HZT HTS hkb
      clear ht hA
      obtain ⟨nA, hnA⟩ : ∃ nA, t.attrs.length = nA := ⟨_, rfl⟩
      have HNA := hid hnA
      rw [hnA] at q2
      clear hnA
      have HL1 := hid ((Below.refl wr.heap.size wr).alloc (Nat.le_refl _) (.cells #[.int .i64 t.kind, .string t.name, .slice aa nA ca, .string t.text] 34))
      have CC := hid (fun wx (h : AtRow wx aa t.attrs) => cCopyS aa ca t.attrs wx h HZT.out.2.1)
      rw [HNA.out] at CC
      obtain ⟨K, hK⟩ : ∃ K, t.kind = K := ⟨_, rfl⟩
      have HKK := hid hK
      rw [hK] at q0 hkb HL1
      obtain ⟨hk1, hk2⟩ := hkb
      clear hK
      go_wp2_with fail
      refine (CC.out _ (HAT.out.below HL1.out)).mono ?_
      rintro e w2 ⟨a1, c1, rfl, ha1, hb2⟩
      have HBX := hid (Bx.made (c1 := c1) (t := t) (nA := nA) (aa := aa) (ca := ca) (a1 := a1) (w2 := w2) (by rw [HKK.out]; simpa using hb2) (by simpa using ha1))
      have M2 := hid (blk_below (heap_alloc_new _ _) hb2)
      obtain ⟨⟨x0, x1, x2, x3⟩, f0, f1, f2, f3⟩ := box4 M2.out
      clear ha1 hb2 CC HL1 q0 q1 q2 q3 hb M2
      obtain ⟨w3, hw3⟩ : ∃ w3, w2.setCell ⟨wr.heap.size, 2, none⟩ (.slice a1 nA c1) = w3 := ⟨_, rfl⟩
      rw [hw3] at HBX
      obtain ⟨⟨y0, y1, y2, y3⟩, g0, g1, g2, g3⟩ := box4 HBX.out.box
      rw [HKK.out] at y0
      have HBX4 := hid (HBX.out.kind (K + (e0 : Int)))
      obtain ⟨w4, hw4⟩ : ∃ w4, w3.setCell ⟨wr.heap.size, 0, none⟩ (.int .i64 (K + (e0 : Int))) = w4 := ⟨_, rfl⟩
      rw [hw4] at HBX4
      obtain ⟨⟨z0, z1, z2, z3⟩, h0, h1, h2, h3⟩ := box4 HBX4.out.box
      by_cases hm0 : i = 0
      · have HBX5 := hid (HBX4.out.kind par)
        obtain ⟨w5, hw5⟩ : ∃ w5, w4.setCell ⟨wr.heap.size, 0, none⟩ (.int .i64 par) = w5 := ⟨_, rfl⟩
        rw [hw5] at HBX5
        obtain ⟨⟨v0, v1, v2, v3⟩, _⟩ := box4 HBX5.out.box
        have HFN := hid (show shK par (shK (K + (e0 : Int)) t) = shK (if i = 0 then par else t.kind + (e0 : Int)) t by rw [if_pos hm0]; rfl)
        have hqq : ((i : Int) == 0) = true := by simp; omega
        clear hm0
        go_wp2_with (at_builtin; refine wpL_bx w wr w5 rfl _ _ rfl u9 _ rfl HX.out (shK par (shK (K + (e0 : Int)) t)) a1 c1 nA rfl HNA.out HBX5.out HLT.out ?_)
        intro v6 w6 hr6
        have HR6 := hid hr6
        rw [HFN.out] at HR6
        try rw [List.append_assoc] at HR6
        rw [← HTS.out] at HR6
        clear hr6 x0 x1 x2 x3 y0 y1 y2 y3 z0 z1 z2 z3 v0 v1 v2 v3 hw3 hw4 hw5
        go_wp2_with fail
        go_roundw
        case rel => exact ⟨i + 1, by go_num, by omega, HR6.out⟩
        case measure => simp [intOf]; omega
      · have HFN := hid (show shK (K + (e0 : Int)) t = shK (if i = 0 then par else t.kind + (e0 : Int)) t by rw [if_neg hm0, HKK.out])
        have hqq : ((i : Int) == 0) = false := by simp; omega
        clear hm0
        go_wp2_with (at_builtin; refine wpL_bx w wr w4 rfl _ _ rfl u9 _ rfl HX.out (shK (K + (e0 : Int)) t) a1 c1 nA rfl HNA.out HBX4.out HLT.out ?_)
        intro v6 w6 hr6
        have HR6 := hid hr6
        rw [HFN.out] at HR6
        try rw [List.append_assoc] at HR6
        rw [← HTS.out] at HR6
        clear hr6 x0 x1 x2 x3 y0 y1 y2 y3 z0 z1 z2 z3 hw3 hw4
        go_wp2_with fail
        go_roundw
        case rel => exact ⟨i + 1, by go_num, by omega, HR6.out⟩
        case measure => simp [intOf]; omega
    · have hie : i = n2 := by omega
      subst hie
      rw [HE0.out] at HX
      clear HE0 HR2 HZ2 HK2
      go_wp2_with fail
      go_loopw [9, 12] (fun v k wr => ∃ m : Nat, k = .int .i64 ((e0 + m : Nat) : Int) ∧ e0 + m ≤ n ∧ Hid (RowOf w wr v (L0 ++ segN (fun _ t => if (e0 : Int) ≤ t.kind then t.kind + (i : Int) else t.kind) ts e0 m))) (fun _ k _ => n - (intOf k).toNat)
      case atStart => exact ⟨0, rfl, by omega, by show RowOf _ _ _ (_ ++ []); rw [List.append_nil]; exact HX.out⟩
      case round =>
        clear HX
        obtain ⟨m, rfl, hm, HX⟩ := hrel
        obtain ⟨j, hj⟩ : ∃ j, e0 + m = j := ⟨_, rfl⟩
        have HJ := hid hj
        rw [hj] at hm ⊢
        by_cases hjl : j < n
        · have hjs : j < ts.length := by rw [HN.out]; exact hjl
          have hjn : (j : Int) < (n : Int) := by omega
          have HTS := hid (segN_next (f := fun _ t => if (e0 : Int) ≤ t.kind then t.kind + (i : Int) else t.kind) (ts := ts) (k := e0) (m := m) (t := ts[j]) (by rw [hj]; exact seg_of hjs))
          have HLT := hid (show (L0 ++ segN (fun _ t => if (e0 : Int) ≤ t.kind then t.kind + (i : Int) else t.kind) ts e0 m).length ≤ 1048576 by rw [List.length_append, segN_len m (by omega)]; have := HL0.out; omega)
          have hkb := HK.out _ (List.getElem_mem hjs)
          have HZT := hid (HZ.out _ (List.getElem_mem hjs))
          obtain ⟨b, o, aa, ca, e', hb, q0, q1, q2, q3, hA⟩ := (HR.out.below HX.out.bel) j hjs
          subst e'
          have HAT := hid hA
          obtain ⟨t, ht⟩ : ∃ t, ts[j] = t := ⟨_, rfl⟩
          rw [ht] at q0 q1 q2 q3 HAT HZT HTS hkb
          clear ht hA
          obtain ⟨nA, hnA⟩ : ∃ nA, t.attrs.length = nA := ⟨_, rfl⟩
          have HNA := hid hnA
          rw [hnA] at q2
          clear hnA hj
          have HL1 := hid ((Below.refl wr.heap.size wr).alloc (Nat.le_refl _) (.cells #[.int .i64 t.kind, .string t.name, .slice aa nA ca, .string t.text] 34))
          have CC := hid (fun wx (h : AtRow wx aa t.attrs) => cCopyS aa ca t.attrs wx h HZT.out.2.1)
          rw [HNA.out] at CC
          obtain ⟨K, hK⟩ : ∃ K, t.kind = K := ⟨_, rfl⟩
          have HKK := hid hK
          rw [hK] at q0 hkb HL1
          obtain ⟨hk1, hk2⟩ := hkb
          clear hK
          go_wp2_with fail
          refine (CC.out _ (HAT.out.below HL1.out)).mono ?_
          rintro e w2 ⟨a1, c1, rfl, ha1, hb2⟩
          have HBX := hid (Bx.made (c1 := c1) (t := t) (nA := nA) (aa := aa) (ca := ca) (a1 := a1) (w2 := w2) (by rw [HKK.out]; simpa using hb2) (by simpa using ha1))
          have M2 := hid (blk_below (heap_alloc_new _ _) hb2)
          obtain ⟨⟨x0, x1, x2, x3⟩, f0, f1, f2, f3⟩ := box4 M2.out
          clear ha1 hb2 CC HL1 q0 q1 q2 q3 hb M2
          obtain ⟨w3, hw3⟩ : ∃ w3, w2.setCell ⟨wr.heap.size, 2, none⟩ (.slice a1 nA c1) = w3 := ⟨_, rfl⟩
          rw [hw3] at HBX
          obtain ⟨⟨y0, y1, y2, y3⟩, g0, g1, g2, g3⟩ := box4 HBX.out.box
          rw [HKK.out] at y0
          by_cases hge : (e0 : Int) ≤ K
          · have HBX4 := hid (HBX.out.kind (K + (i : Int)))
            obtain ⟨w4, hw4⟩ : ∃ w4, w3.setCell ⟨wr.heap.size, 0, none⟩ (.int .i64 (K + (i : Int))) = w4 := ⟨_, rfl⟩
            rw [hw4] at HBX4
            obtain ⟨⟨z0, z1, z2, z3⟩, h0, h1, h2, h3⟩ := box4 HBX4.out.box
            have HFN := hid (show shK (K + (i : Int)) t = shK (if (e0 : Int) ≤ t.kind then t.kind + (i : Int) else t.kind) t by rw [HKK.out, if_pos hge])
            have hgd : decide ((e0 : Int) ≤ K) = true := decide_eq_true hge
            go_wp2_with (at_builtin; refine wpL_bx w wr w4 rfl _ _ rfl u9 _ rfl HX.out (shK (K + (i : Int)) t) a1 c1 nA rfl HNA.out HBX4.out HLT.out ?_)
            intro v6 w6 hr6
            have HR6 := hid hr6
            rw [HFN.out] at HR6
            try rw [List.append_assoc] at HR6
            rw [← HTS.out] at HR6
            clear hr6 x0 x1 x2 x3 y0 y1 y2 y3 z0 z1 z2 z3 hw3 hw4
            go_wp2_with fail
            go_roundw
            case rel => exact ⟨m + 1, by rw [← HJ.out]; go_num, by have := HJ.out; omega, HR6.out⟩
            case measure => simp [intOf]; omega
          · have HFN := hid (show shK K t = shK (if (e0 : Int) ≤ t.kind then t.kind + (i : Int) else t.kind) t by rw [HKK.out, if_neg hge])
            have HBX4 := hid (show Bx wr w3 (shK K t) nA a1 c1 by rw [show shK K t = t by rw [← HKK.out]; rfl]; exact HBX.out)
            have hgd : decide ((e0 : Int) ≤ K) = false := decide_eq_false hge
            go_wp2_with (at_builtin; refine wpL_bx w wr w3 rfl _ _ rfl u9 _ rfl HX.out (shK K t) a1 c1 nA rfl HNA.out HBX4.out HLT.out ?_)
            intro v6 w6 hr6
            have HR6 := hid hr6
            rw [HFN.out] at HR6
            try rw [List.append_assoc] at HR6
            rw [← HTS.out] at HR6
            clear hr6 x0 x1 x2 x3 y0 y1 y2 y3 hw3
            go_wp2_with fail
            go_roundw
            case rel => exact ⟨m + 1, by rw [← HJ.out]; go_num, by have := HJ.out; omega, HR6.out⟩
            case measure => simp [intOf]; omega
        · have hje : j = n := by omega
          subst hje
          have HY := hid (show RowOf w wr u9 (L0 ++ segN (fun _ t => if (e0 : Int) ≤ t.kind then t.kind + (i : Int) else t.kind) ts e0 (j - e0)) by
            have h := HX.out
            rw [show j - e0 = m by omega]
            exact h)
          clear HX
          go_wp2_with fail
          go_ret
          exact ⟨_, rfl, HY.out⟩

end Go.Proofs.Ytikplfghepojiaa

namespace Go.Proofs.Ytikplfghepojiaa
open Go.RowKit
set_option linter.unusedVariables false
set_option linter.unusedSimpArgs false

theorem tk_drop {w : World} {b o : Nat} {ts : List Tk} (h : TkRow w (some ⟨b, o, none⟩) ts) (k : Nat) : TkRow w (some ⟨b, o + k * 4, none⟩) (ts.drop k) := by
  intro j hj
  rw [List.length_drop] at hj
  obtain ⟨b', o', aa, ca, e, hb, q0, q1, q2, q3, q4⟩ := h (k + j) (by omega)
  cases e
  rw [List.getElem_drop]
  have e1 : o + k * 4 + j * 4 = o + (k + j) * 4 := by omega
  exact ⟨b, o + k * 4, aa, ca, rfl, hb, by rw [e1]; exact q0, by rw [e1]; exact q1, by rw [e1]; exact q2, by rw [e1]; exact q3, q4⟩

theorem sl_from (b o L cap k : Nat) (h : k ≤ L) (hL : L ≤ cap) (W : World) : (Instr.slice 24 (.slice (some ⟨b, o, none⟩) L cap) (some (.int .i64 k)) none none).run Try.prog W = .ok (.slice (some (if cap = k then ⟨b, o, none⟩ else ⟨b, o + k * 4, none⟩)) (L - k) (cap - k)) W := by
  have h' : (k : Int) ≤ L := by omega
  have h2 : (L : Int) ≤ cap := by omega
  go_simp
  by_cases e : cap = k <;> simp [e, Addr.add]

/-- What stands behind, as a row. -/
theorem tk_from {w : World} {b o cap k : Nat} {ts : List Tk} (h : TkRow w (some ⟨b, o, none⟩) ts) (hc : ts.length ≤ cap) : TkRow w (some (if cap = k then ⟨b, o, none⟩ else ⟨b, o + k * 4, none⟩)) (ts.drop k) := by
  split
  · intro j hj
    rw [List.length_drop] at hj
    omega
  · exact tk_drop h k

/-- A row of nodes as cells, and where their attrs lie. -/
theorem rowG {w : World} {b o : Nat} {ts : List Tk} (h : TkRow w (some ⟨b, o, none⟩) ts) : ∀ n, n ≤ ts.length → ∃ es : List Nd.E, es.map (·.t) = ts.take n ∧ (∀ j u, (Nd.cs es)[j]? = some u → w.cell? ((⟨b, o, none⟩ : Addr).add j) = some u) ∧ ∀ e ∈ es, AtRow w e.a e.t.attrs
  | 0, _ => ⟨[], by simp, fun j u hj => by simp [Nd.cs] at hj, fun e he => absurd he List.not_mem_nil⟩
  | n + 1, hn => by
    obtain ⟨es, e1, e2, e3⟩ := rowG h n (by omega)
    obtain ⟨b', o', aa, ca, e, hb, q0, q1, q2, q3, q4⟩ := h n (by omega)
    obtain ⟨rfl, rfl⟩ : b = b' ∧ o = o' := by cases e; exact ⟨rfl, rfl⟩
    have hl : es.length = n := by
      have := congrArg List.length e1
      rw [List.length_map, List.length_take] at this
      omega
    refine ⟨es ++ [⟨ts[n], aa, ca⟩], by rw [List.map_append, e1, take_snocN (by omega)]; rfl, fun j u hj => ?_, fun e he => ?_⟩
    · rw [Nd.cs_app, Nd.cs_one] at hj
      by_cases hlt : j < (Nd.cs es).length
      · rw [List.getElem?_append_left hlt] at hj
        exact e2 j u hj
      · rw [List.getElem?_append_right (by omega)] at hj
        rw [Nd.cs_len, hl] at hj hlt
        rw [add_plainW]
        have h4 : j - n * 4 < 4 := by
          have := (List.getElem?_eq_some_iff.1 hj).1
          exact this
        obtain ⟨d, hd, hd4⟩ : ∃ d, j = n * 4 + d ∧ d < 4 := ⟨j - n * 4, by omega, h4⟩
        subst hd
        rw [show n * 4 + d - n * 4 = d by omega] at hj
        rw [← Nat.add_assoc]
        match d, hd4, hj with
        | 0, _, hj => cases hj; exact q0
        | 1, _, hj => cases hj; exact q1
        | 2, _, hj => cases hj; exact q2
        | 3, _, hj => cases hj; exact q3
    · rcases List.mem_append.1 he with h' | h'
      · exact e3 e h'
      · rw [List.mem_singleton] at h'
        subst h'
        exact q4

/-- A row of one's own, the attrs wherever. -/
theorem tkG {w : World} {B g cap : Nat} {es : List Nd.E} (h : w.ownsRow B 34 4 (.slice (some ⟨g, 0, none⟩) es.length cap) es.length (Nd.cs es)) (ha : ∀ e ∈ es, AtRow w e.a e.t.attrs) : TkRow w (some ⟨g, 0, none⟩) (es.map (·.t)) := by
  intro j hj
  rw [List.length_map] at hj
  obtain ⟨k0, k1, k2, k3⟩ := Nd.cs_get es j hj
  have hx : ∀ k, k < es.length * 4 → ∀ u, (Nd.cs es)[k]? = some u → w.cell? ⟨g, 0 + k, none⟩ = some u := by
    intro k hk u hu
    rw [Nat.zero_add, World.ownsRow.cellAt h k hk]
    exact hu
  have hg : g < w.heap.size := by
    rcases h.2 with ⟨e, _⟩ | ⟨g', cap', cur, e, hg, hh, _⟩
    · cases e
    · cases e; exact lt_of_heap hh
  rw [List.getElem_map]
  exact ⟨g, 0, es[j].a, es[j].cap, rfl, hg, hx _ (by omega) _ k0, hx _ (by omega) _ k1, hx _ (by omega) _ k2, hx _ (by omega) _ k3, ha _ (List.getElem_mem hj)⟩

/-- append of a row of others' nodes, of none too, to a new one. -/
theorem wpL_fresh (W0 : World) {ops : Array Oper} {rest : List Oper} {o : Oper} {a : Act} {Q : Exit → Act → World → Prop} (hgd : o.guard = none) (s x : Operand)
    (ho : o.op = .call { callee := .builtin .append, args := #[s, x], argTypes := #[24, 24] }) (hs : a.eval s = .slice (some ⟨W0.heap.size, 0, none⟩) 0 0)
    (aD : Option Addr) (D : List Tk) (d cD : Nat) (hd : D.length = d) (hx : a.eval x = .slice aD d cD) (hR : TkRow W0 aD D) (hn : d ≤ 1048576)
    (h : ∀ a' c' w', TkRow w' a' D → Below W0.heap.size W0 w' → wpList Try.prog ops Q rest (a.put o.dst (.slice a' d c')) w') : wpList Try.prog ops Q (o :: rest) a (W0.alloc (.cells #[] 34)) := by
  obtain ⟨i0, hi, hz0, hz1, hz2⟩ := info_parts Nd.infoR
  have hB0 := (Below.refl W0.heap.size W0).alloc (Nat.le_refl _) (.cells #[] 34)
  have hown : (W0.alloc (.cells #[] 34)).ownsRow W0.heap.size 34 4 (.slice (some ⟨W0.heap.size, 0, none⟩) 0 0) 0 [] :=
    ⟨by simp, .inr ⟨W0.heap.size, 0, #[], rfl, Nat.le_refl _, heap_alloc_new _ _, Nat.le_refl _, Nat.zero_le _, by simp, by simp⟩⟩
  by_cases h0 : d = 0
  · subst h0
    exact wpL_none _ hgd s x 24 34 i0 ho Try.underlying24 hi _ _ _ hs (Nat.le_refl _) aD cD hx (h _ _ _ (fun j hj => by omega) hB0)
  · obtain ⟨b, o', aa, ca, e, hb, _⟩ := hR 0 (by omega)
    subst e
    obtain ⟨es, e1, e2, e3⟩ := rowG hR D.length (Nat.le_refl _)
    rw [List.take_of_length_le (Nat.le_refl _)] at e1
    have hel : es.length = d := by rw [← hd, ← e1, List.length_map]
    refine wpList_append_own_at _ hgd s x 24 ho W0.heap.size 34 i0 _ 4 64 Try.underlying24 hi hz0 hz1 hz2 rfl (by decide) _ 0 [] hs hown ⟨b, o', none⟩ d cD (Nd.cs es) hx (by rw [Nd.cs_len, hel]) (fun j u hj => ?_) (Nd.cs_cell es) (by unfold maxLen; omega) (by omega) hB0.size ?_
    · have h1 := e2 j u hj
      rw [add_plainW] at h1 ⊢
      exact (hB0.cell (p := ⟨b, o' + j, none⟩) hb).trans h1
    · intro v' w' h1 h2 _ _
      have hB1 := hB0.grown h2 (by simp) (fun k hk => (hown.lt k hk).1)
      rw [Nat.zero_add, List.nil_append] at h1
      rcases h1.2 with ⟨_, h'⟩ | ⟨g, cap, cur, rfl, _⟩
      · exact absurd h' h0
      · refine h _ _ _ ?_ hB1
        rw [← e1]
        rw [← hel] at h1
        exact tkG h1 (fun e he => (e3 e he).below hB1)

/-- append of a row of one's own to another one. -/
theorem wpL_two (w W1 W : World) {ops : Array Oper} {rest : List Oper} {o : Oper} {a : Act} {Q : Exit → Act → World → Prop} (hgd : o.guard = none) (s x : Operand)
    (ho : o.op = .call { callee := .builtin .append, args := #[s, x], argTypes := #[24, 24] }) (v v2 : Value) (L L2 : List Tk) (hs : a.eval s = v) (hx : a.eval x = v2) (h1 : RowOf w W1 v L) (h2 : RowOf W1 W v2 L2) (hn : L.length + L2.length ≤ 2097152)
    (h : ∀ v' w', RowOf w w' v' (L ++ L2) → wpList Try.prog ops Q rest (a.put o.dst v') w') : wpList Try.prog ops Q (o :: rest) a W := by
  obtain ⟨i0, hi, hz0, hz1, hz2⟩ := info_parts Nd.infoR
  have hW := h1.below h2.bel
  obtain ⟨es, a1, c1, rfl, hr1, hm1, hl1⟩ := h1.open
  obtain ⟨fs, a2, c2, rfl, hr2, hm2, hl2⟩ := h2.open
  by_cases h0 : fs = []
  · subst h0
    have hL2 : L2 = [] := by rw [← hm2]; rfl
    subst hL2
    rw [List.append_nil] at h
    refine wpL_none _ hgd s x 24 34 i0 ho Try.underlying24 hi a1 es.length c1 hs ?_ a2 c2 hx (h _ _ hW)
    rcases hr1.own.2 with ⟨e, _⟩ | ⟨g, cap, cur, e, _, _, hc, _⟩
    · injection e with e1 e2 e3
      rw [e2]
      exact Nat.zero_le _
    · injection e with e1 e2 e3
      rw [e3]
      exact hc
  · obtain ⟨g, e, _, hcs⟩ := hr2.cells h0
    subst e
    obtain ⟨k1, k2⟩ := hr1.apart_later hr2 (Nat.le_refl _)
    refine Nd.wpL_join W hgd s x ho w.heap.size _ es fs hs (hr1.below h2.bel) g fs.length c2 hx rfl hcs (fun e he => ⟨own_lift (hr2.ats e he).1 h1.bel.size, fun g' o' hl' e' => k2 e he g' o' hl' e'⟩) hr2.apart k1 (by omega) hW.bel.size ?_
    intro a' c' w' h3 h4 _
    exact h _ _ ⟨⟨_, a', c', rfl, h3, by rw [List.map_append, hm1, hm2]⟩, hW.bel.trans h4⟩

end Go.Proofs.Ytikplfghepojiaa

namespace Go.Proofs.Ytikplfghepojiaa
open Go.RowKit
set_option linter.unusedVariables false
set_option linter.unusedSimpArgs false

/-- Nodes up to e whose parent it is. -/
def kidsTo (ts : List Tk) (k e : Nat) : List Nat := (List.range e).filter fun i => decide (k < i) && decide (parI ts i = (k : Int))

/-- Nodes whose parent it is. -/
def kidsN (ts : List Tk) (k : Nat) : List Nat := kidsTo ts k ts.length

theorem kidsTo_first (ts : List Tk) (k : Nat) : kidsTo ts k (k + 1) = [] := by
  unfold kidsTo
  rw [List.filter_eq_nil_iff]
  intro i hi
  have := List.mem_range.1 hi
  simp
  omega

theorem kidsTo_next {ts : List Tk} {k e : Nat} (h : k < e) : kidsTo ts k (e + 1) = kidsTo ts k e ++ (if parI ts e = (k : Int) then [e] else []) := by
  unfold kidsTo
  rw [List.range_succ, List.filter_append]
  congr 1
  by_cases q : parI ts e = (k : Int)
  · simp [h, q]
  · simp [q]

theorem kidsTo_len (ts : List Tk) (k e : Nat) : (kidsTo ts k e).length ≤ e := by
  have := List.length_filter_le (fun i => decide (k < i) && decide (parI ts i = (k : Int))) (List.range e)
  rw [List.length_range] at this
  exact this

theorem kidsN_lt {ts : List Tk} {k i : Nat} (h : i ∈ kidsN ts k) : i < ts.length := List.mem_range.1 (List.mem_filter.1 h).1

/-- Numbers as cells. -/
def intC (l : List Nat) : List Value := l.map fun (i : Nat) => .int .i64 (i : Int)

theorem intC_len (l : List Nat) : (intC l).length = l.length := by simp [intC]

theorem intC_app (l m : List Nat) : intC (l ++ m) = intC l ++ intC m := by simp [intC]

theorem info64 : (Try.prog.info? 2).map (fun i => (i.zero, i.size, i.bytes)) = some (some (.int .i64 0), 1, 8) := by kernel_rfl

theorem one_cell64 (w : World) (v : Value) : ∀ j u, [v][j]? = some u → (w.alloc (.cells #[v] 2)).cell? ((⟨w.heap.size, 0, none⟩ : Addr).add j) = some u := by
  intro j u hj
  match j, hj with
  | 0, hj => simp at hj; subst hj; simp [Addr.add]

theorem one_one64 (n : Int) : ∀ u ∈ [Value.int .i64 n], u.oneCell' = true := by
  intro u hu; simp at hu; subst hu; rfl

set_option maxRecDepth 8000 in
set_option maxHeartbeats 4000000 in
theorem cKidsS (a : Option Addr) (cap : Nat) (ts : List Tk) (k : Nat) (w : World) (hR : TkRow w a ts) (hk : k < ts.length) (hn : ts.length ≤ 1048576) :
    Calls Try.prog 80 #[.slice a ts.length cap, .int .i64 (k : Int)] w fun e w' => ∃ v, e = .returned v ∧ w'.ownsRow w.heap.size 2 1 v (kidsN ts k).length (intC (kidsN ts k)) ∧ Below w.heap.size w w' := by
  have HR := hid hR
  obtain ⟨i0, hi, hz0, hz1, hz2⟩ := info_parts info64
  have HI := hid (And.intro hi (And.intro hz0 (And.intro hz1 hz2)))
  clear hi hz0 hz1 hz2 hR
  obtain ⟨V, hV⟩ : ∃ V, kidsN ts k = V := ⟨_, rfl⟩
  have HV := hid hV
  rw [hV]
  clear hV
  obtain ⟨n, hnn⟩ : ∃ n, ts.length = n := ⟨_, rfl⟩
  have HN := hid hnn
  rw [hnn] at hn hk ⊢
  clear hnn
  go_enter Try.func80, Try.ntmps80
  go_wp2
  go_loopw [5, 6] (fun v x wr => ∃ e : Nat, x = .int .i64 (e : Int) ∧ k < e ∧ e ≤ n ∧ Hid (wr.ownsRow w.heap.size 2 1 v (kidsTo ts k e).length (intC (kidsTo ts k e))) ∧ Hid (Below w.heap.size w wr)) (fun _ x _ => n - (intOf x).toNat)
  case atStart => exact ⟨k + 1, by go_num, by omega, by omega, by rw [kidsTo_first]; exact World.ownsRow_made _ _ _ (Nat.le_refl _) (by decide) rfl, (Below.refl _ _).alloc (Nat.le_refl _) _⟩
  case round =>
    obtain ⟨e, rfl, h1, h2, HO, HB⟩ := hrel
    by_cases hlt : e < n
    · have hes : e < ts.length := by rw [HN.out]; exact hlt
      have hin : (e : Int) < (n : Int) := by omega
      obtain ⟨b, o, rfl, c0, _⟩ := (HR.out.below HB.out).kindAt e hes
      have HX := hid (kidsTo_next (ts := ts) h1)
      by_cases hp : parI ts e = (k : Int)
      · rw [if_pos hp] at HX
        have hlen := kidsTo_len ts k e
        have hd : (parI ts e == (k : Int)) = true := by simpa using hp
        generalize parI ts e = P at *
        clear hp
        obtain ⟨hi, hz0, hz1, hz2⟩ := HI.out
        have hsz := HB.out.size
        have HOA := hid (HO.out.alloc (.cells #[.int .i64 (e : Int)] 2))
        have hlen2 : (intC (kidsTo ts k e)).length ≤ e := by rw [intC_len]; exact hlen
        go_wp2_with (at_builtin; refine wpList_append_own _ rfl _ _ 84 rfl w.heap.size 2 i0 (.int .i64 0) 1 8 Try.underlying84 hi hz0 hz1 hz2 rfl (by decide) _ _ _ rfl HOA.out ⟨wr.heap.size, 0, none⟩ 1 1 [.int .i64 (e : Int)] rfl rfl ?c1 ?c2 ?c3 ?c4 ?c5 ?_)
        case c1 => exact one_cell64 _ _
        case c2 => exact one_one64 _
        case c3 => unfold maxLen; omega
        case c4 => omega
        case c5 => simp; omega
        intro v' w2 hown' hgrow _
        have HO2 := hid (show w2.ownsRow w.heap.size 2 1 v' (kidsTo ts k (e + 1)).length (intC (kidsTo ts k (e + 1))) by rw [HX.out, intC_app, List.length_append]; exact hown')
        have HB2 := hid ((HB.out.alloc hsz (.cells #[.int .i64 (e : Int)] 2)).grown hgrow (by simp; omega) (fun g hg => (HOA.out.lt g hg).1))
        clear hown' hgrow
        go_wp2
        go_roundw
        case rel => exact ⟨e + 1, by go_num, by omega, by omega, HO2.out, HB2.out⟩
        case measure => simp [intOf]; omega
      · rw [if_neg hp, List.append_nil] at HX
        have hd : (parI ts e == (k : Int)) = false := by simpa using hp
        generalize parI ts e = P at *
        clear hp
        go_wp2
        go_roundw
        case rel => exact ⟨e + 1, by go_num, by omega, by omega, by rw [HX.out]; exact HO.out, HB.out⟩
        case measure => simp [intOf]; omega
    · have hee : e = n := by omega
      subst hee
      have HW := hid (show kidsTo ts k e = V by rw [← HV.out]; unfold kidsN; rw [HN.out])
      have HO2 := HO.out
      rw [HW.out] at HO2
      have HO3 := hid HO2
      clear HO2 HO
      go_wp2
      go_ret
      exact ⟨_, rfl, HO3.out, HB.out⟩

/-- A cell of a row of numbers of our own. -/
theorem row64 {w : World} {B : Nat} {v : Value} {l : List Nat} (h : w.ownsRow B 2 1 v l.length (intC l)) : (∃ a cap, v = .slice a l.length cap) ∧ ∀ i (hi : i < l.length), ∃ g cap, v = .slice (some ⟨g, 0, none⟩) l.length cap ∧ g < w.heap.size ∧ w.cell? ⟨g, i, none⟩ = some (.int .i64 (l[i] : Int)) := by
  rcases h.2 with ⟨rfl, h0⟩ | ⟨g, cap, cur, rfl, hg, hh, hn, hc, hs, ht⟩
  · have : l = [] := List.eq_nil_of_length_eq_zero h0
    subst this
    exact ⟨⟨none, 0, rfl⟩, fun i hi => absurd hi (Nat.not_lt_zero _)⟩
  · refine ⟨⟨_, _, rfl⟩, fun i hi => ⟨g, cap, rfl, lt_of_heap hh, ?_⟩⟩
    rw [Lib.cell_of_heap hh, ← Array.getElem?_toList]
    have hk : (intC l)[i]? = some (.int .i64 (l[i] : Int)) := by
      unfold intC
      rw [List.getElem?_map, List.getElem?_eq_getElem hi]
      rfl
    rw [← ht, List.getElem?_take] at hk
    split at hk
    · exact hk
    · cases hk

theorem row64_mono {w : World} {B B' n : Nat} {v : Value} {xs : List Value} {e : TypeId} (h : w.ownsRow B' e 1 v n xs) (hB : B ≤ B') : w.ownsRow B e 1 v n xs := by
  refine ⟨h.1, ?_⟩
  rcases h.2 with h' | ⟨g, cap, cur, h1, h2, h3⟩
  · exact .inl h'
  · exact .inr ⟨g, cap, cur, h1, Nat.le_trans hB h2, h3⟩

noncomputable def kidsI (ts : List Tk) (x : Int) : List Nat := if hasB ts x = true then kidsN ts x.toNat else []

def textAt (ts : List Tk) (k : Nat) : ByteArray := match ts[k]? with | some t => t.text | none => ⟨#[]⟩

theorem textAt_at {ts : List Tk} {k : Nat} (h : k < ts.length) : textAt ts k = ts[k].text := by unfold textAt; rw [List.getElem?_eq_getElem h]

/-- The texts of these, one behind the other. -/
def joinT (ts : List Tk) (ks : List Nat) : ByteArray := ks.foldl (fun s k => s ++ textAt ts k) ⟨#[]⟩

theorem joinT_snoc (ts : List Tk) (ks : List Nat) (k : Nat) : joinT ts (ks ++ [k]) = joinT ts ks ++ textAt ts k := by simp [joinT]

theorem tree_text {ts : List Tk} (h : TreeP ts) (k : Nat) : (textAt ts k).size ≤ 60 := by
  by_cases hk : k < ts.length
  · rw [textAt_at hk]
    obtain ⟨⟨_, hb⟩, _⟩ := h.2.2.2.2 k hk
    by_cases e : ts[k].name.size = 0
    · rw [nodeB_tx e] at hb
      simp only [Bool.and_eq_true, textB, decide_eq_true_eq] at hb
      exact hb.2.2.2
    · rw [nodeB_el e] at hb
      simp only [Bool.and_eq_true, decide_eq_true_eq] at hb
      omega
  · unfold textAt
    rw [List.getElem?_eq_none (by omega)]
    exact Nat.zero_le _

theorem joinT_size {ts : List Tk} (h : ∀ k, (textAt ts k).size ≤ 60) (ks : List Nat) : (joinT ts ks).size ≤ 60 * ks.length := by
  have H : ∀ (ks : List Nat) (s : ByteArray), (ks.foldl (fun s k => s ++ textAt ts k) s).size ≤ s.size + 60 * ks.length := by
    intro ks
    induction ks with
    | nil => intro s; simp
    | cons k ks ih =>
      intro s
      have := ih (s ++ textAt ts k)
      have h2 := h k
      rw [ByteArray.size_append] at this
      simp only [List.foldl_cons, List.length_cons]
      omega
  have := H ks ⟨#[]⟩
  rw [show (⟨#[]⟩ : ByteArray).size = 0 from rfl] at this
  unfold joinT
  omega

set_option maxRecDepth 8000 in
set_option maxHeartbeats 4000000 in
theorem cTextS (a : Option Addr) (cap : Nat) (ts : List Tk) (k : Nat) (w : World) (hR : TkRow w a ts) (hk : k < ts.length) (hn : ts.length ≤ 1048576) (ht : TreeP ts) :
    Calls Try.prog 53 #[.slice a ts.length cap, .int .i64 (k : Int)] w fun e w' => e = .returned (.string (joinT ts (kidsN ts k))) ∧ Below w.heap.size w w' := by
  have HR := hid hR
  have HS := hid (joinT_size (tree_text ht))
  have HTX := hid (tree_text ht)
  have C := hid (cKidsS a cap ts k w hR hk hn)
  have HK := hid (fun i (h : i ∈ kidsN ts k) => kidsN_lt h)
  have hlen := kidsTo_len ts k ts.length
  obtain ⟨V, hV⟩ : ∃ V, kidsN ts k = V := ⟨_, rfl⟩
  have hlen2 : V.length ≤ ts.length := by rw [← hV]; exact hlen
  rw [hV] at C HK ⊢
  clear hV hR ht hlen
  obtain ⟨n, hnn⟩ : ∃ n, ts.length = n := ⟨_, rfl⟩
  have HN := hid hnn
  rw [hnn] at hn hk hlen2 C ⊢
  clear hnn
  go_enter Try.func53, Try.ntmps53
  go_wp2_with fail
  refine C.out.mono ?_
  rintro e w1 ⟨v, rfl, ho, hb1⟩
  obtain ⟨⟨av, cv, hv⟩, hrow⟩ := row64 ho
  have HRW := hid hrow
  have HB1 := hid hb1
  obtain ⟨L, hL⟩ : ∃ L, V.length = L := ⟨_, rfl⟩
  have HLL := hid hL
  rw [hL] at hv hlen2
  subst hv
  clear hrow hb1 ho C hL
  go_wp2_with fail
  go_loop [5, 7] (fun s x => ∃ i : Nat, x = .int .i64 (i : Int) ∧ i ≤ L ∧ Hid (s = .string (joinT ts (V.take i)))) (fun _ x => L - (intOf x).toNat)
  case atStart => exact ⟨0, rfl, Nat.zero_le _, rfl⟩
  case round =>
    obtain ⟨i, rfl, hi, HE⟩ := hrel
    have hse := HE.out
    have hsz := HS.out (V.take i)
    rw [List.length_take] at hsz
    by_cases hlt : i < L
    · have hiV : i < V.length := by rw [HLL.out]; exact hlt
      have hin : (i : Int) < (L : Int) := by omega
      have HX := hid (show joinT ts (V.take (i + 1)) = joinT ts (V.take i) ++ textAt ts V[i] by rw [take_snocN hiV, joinT_snoc])
      obtain ⟨g, cg, eg, hgl, c0⟩ := HRW.out i hiV
      obtain ⟨rfl, rfl⟩ : av = some ⟨g, 0, none⟩ ∧ cv = cg := by cases eg; exact ⟨rfl, rfl⟩
      have hq := HK.out V[i] (List.getElem_mem hiV)
      obtain ⟨b, o, aa, ca, ea, hb, c1, c2, c3, c4, _⟩ := (HR.out.below HB1.out) V[i] hq
      have htx := HTX.out V[i]
      rw [textAt_at hq] at htx HX
      have hqn : (V[i] : Int) < (n : Int) := by rw [HN.out] at hq; omega
      subst ea
      generalize ts[V[i]].text = T at *
      generalize V[i] = q at *
      generalize joinT ts (V.take i) = S at *
      subst hse
      clear c1 c2 c3 eg hiV
      have hf : ¬ 9223372036854775807 < S.size + T.size := by omega
      go_wp2_with fail
      go_round
      case rel => exact ⟨i + 1, by go_num, by omega, hid (by rw [HX.out])⟩
      case measure => simp [intOf]; omega
    · have hie : i = L := by omega
      subst hie
      have HW := hid (show V.take i = V from List.take_of_length_le (by rw [HLL.out]; exact Nat.le_refl _))
      rw [HW.out] at hse
      subst hse
      clear hsz
      go_wp2_with fail
      go_ret
      exact ⟨rfl, HB1.out⟩

noncomputable def textI (ts : List Tk) (x : Int) : ByteArray := if hasB ts x = true then joinT ts (kidsN ts x.toNat) else ⟨#[]⟩

set_option maxHeartbeats 2000000 in
theorem cTextInS (a : Option Addr) (cap : Nat) (ts : List Tk) (x : Int) (w : World) (hR : TkRow w a ts) (hn : ts.length ≤ 1048576) (hz : TksSz 1048576 ts) :
    Calls Try.prog 19 #[.slice a ts.length cap, .int .i64 x] w fun e w' => e = .returned (.string (textI ts x)) ∧ Below w.heap.size w w' := by
  have C := hid (cHasS a cap ts x w hR hn hz)
  have HR := hid hR
  cases q : hasB ts x
  · have e1 : textI ts x = ⟨#[]⟩ := by unfold textI; rw [q]; rfl
    rw [e1]
    rw [q] at C
    clear hz hR e1
    generalize ts.length = n at *
    go_enter Try.func19, Try.ntmps19
    go_wp2_with fail
    refine C.out.mono ?_
    rintro e w1 ⟨rfl, hb1⟩
    have HB1 := hid hb1
    clear hb1
    go_wp2_with fail
    go_ret
    exact ⟨rfl, HB1.out⟩
  · obtain ⟨ht, k, rfl, hk⟩ := hasB_t q
    have e1 : textI ts (k : Int) = joinT ts (kidsN ts k) := by unfold textI; rw [q]; rfl
    have CE := hid (fun wx h => cTextS a cap ts k wx h hk hn ht)
    rw [e1]
    rw [q] at C
    clear hz hR e1 hk ht
    generalize joinT ts (kidsN ts k) = E at *
    generalize ts.length = n at *
    go_enter Try.func19, Try.ntmps19
    go_wp2_with fail
    refine C.out.mono ?_
    rintro e w1 ⟨rfl, hb1⟩
    have HB1 := hid hb1
    clear hb1
    go_wp2_with fail
    refine (CE.out _ (HR.out.below HB1.out)).mono ?_
    rintro e w2 ⟨rfl, hb2⟩
    have HB2 := hid (bb HB1.out hb2)
    clear hb2
    go_wp2_with fail
    go_ret
    exact ⟨rfl, HB2.out⟩

end Go.Proofs.Ytikplfghepojiaa
