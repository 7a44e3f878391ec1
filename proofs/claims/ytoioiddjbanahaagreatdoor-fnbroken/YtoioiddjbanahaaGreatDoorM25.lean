/-  -/
import Derived.Test.YtoioiddjbanahaaGreatDoorM13
import Derived.Test.YtoioiddjbanahaaGreatDoorM8
import Derived.Test.YtoioiddjbanahaaGreatDoorM6
import Derived.Test.YtoioiddjbanahaaGreatDoorM24
set_option linter.unusedVariables false
set_option linter.unusedSimpArgs false
namespace Go.Proofs.YtoioiddjbanahaaGreatDoor

open Go.RowKit

structure Bx (wr W : World) (t : Tk) (nA : Nat) (a1 : Option Addr) (c1 : Nat) : Prop where
 bel : Below wr.heap.size wr W
 box : W.heap[wr.heap.size]? = some (.cells #[.int .i64 t.kind, .string t.name, .slice a1 nA c1, .string t.text] 32 (0, 0))
 own : OwnC W (wr.heap.size + 1) a1 c1 t.attrs

theorem Bx.made {wr w2 : World} {t : Tk} {nA c1 ca : Nat} {aa a1 : Option Addr} (hb : Below (wr.heap.size + 1) (wr.alloc (.cells #[.int .i64 t.kind, .string t.name, .slice aa nA ca, .string t.text] 32)) w2) (hA : OwnC w2 (wr.heap.size + 1) a1 c1 t.attrs) :
  Bx wr (w2.setCell ⟨wr.heap.size, 2, none⟩ (.slice a1 nA c1)) t nA a1 c1 := by
 have h0 := (Below.refl wr.heap.size wr).alloc (Nat.le_refl _) (.cells #[.int .i64 t.kind, .string t.name, .slice aa nA ca, .string t.text] 32)
 have m0 := heap_alloc_new wr (.cells #[.int .i64 t.kind, .string t.name, .slice aa nA ca, .string t.text] 32)
 refine ⟨(h0.trans (hb.mono (Nat.le_succ _))).setCell (p := ⟨wr.heap.size, 2, none⟩) (Nat.le_refl _) _, ?_, OwnC.set hA (p := ⟨wr.heap.size, 2, none⟩) (Nat.lt_succ_self _) _⟩
 exact box_set ((hb.block _ (Nat.lt_succ_self _)).trans m0) 2 (.slice a1 nA c1)

theorem Bx.kind {wr W : World} {t : Tk} {nA c1 : Nat} {a1 : Option Addr} (h : Bx wr W t nA a1 c1) (k : Int) : Bx wr (W.setCell ⟨wr.heap.size, 0, none⟩ (.int .i64 k)) (shK k t) nA a1 c1 :=
 ⟨h.bel.setCell (p := ⟨wr.heap.size, 0, none⟩) (Nat.le_refl _) _, box_set h.box 0 (.int .i64 k), OwnC.set h.own (p := ⟨wr.heap.size, 0, none⟩) (Nat.lt_succ_self _) _⟩

theorem wpL_bx (w wr W0 : World) {ops : Array Oper} {rest : List Oper} {o : Oper} {a : Act} {Q : Exit -> Act -> World -> Prop} (hgd : o.guard = none) (s x : Operand)
  (ho : o.op = .call { callee := .builtin .append, args := #[s, x], argTypes := #[24, 24] }) (v : Value) (L : List Tk) (hs : a.eval s = v) (hrow : RowOf w wr v L)
  (t : Tk) (a1 : Option Addr) (c1 nA : Nat) (hx : a.eval x = .slice (some ⟨W0.heap.size, 0, none⟩) 1 1) (hnA : t.attrs.length = nA) (hbx : Bx wr W0 t nA a1 c1) (hn : L.length <= 1048576)
  (h : ∀ v' w', RowOf w w' v' (L ++ [t]) -> wpList Tryz.prog ops Q rest (a.put o.dst v') w') : wpList Tryz.prog ops Q (o :: rest) a (W0.alloc (.cells #[.int .i64 t.kind, .string t.name, .slice a1 nA c1, .string t.text] 32)) :=
 wpL_row w wr _ hgd s x ho v L hs hrow (hbx.bel.alloc hbx.bel.size _) t a1 c1 W0.heap.size nA hx hnA (heap_alloc_new _ _) (OwnC.lift (hbx.own.below ((Below.refl _ _).alloc (Nat.le_refl _) _)) (Nat.le_succ _)) hn h

theorem seg_of {ts : List Tk} {i : Nat} (h : i < ts.length) : ts[i]? = some ts[i] := List.getElem?_eq_getElem h

def TreeAns (w : World) (R : List Tk) (b : Bool) (e : Ending) (w' : World) : Prop := ∃ v, e = .returned (.tuple #[v, .bool b]) /\ RowOf w w' v R

theorem TreeAns.none {w wr : World} (hb : Below w.heap.size w wr) : TreeAns w [] false (.returned (.tuple #[.slice (some ⟨wr.heap.size, 0, none⟩) 0 0, .bool false])) (wr.alloc (.cells #[] 32)) :=
 ⟨_, rfl, RowOf.start (hb.alloc hb.size _) hb.size (heap_alloc_new _ _)⟩

theorem RowOf.later {w w1 w' : World} {v : Value} {L : List Tk} (hb : Below w.heap.size w w1) (h : RowOf w1 w' v L) : RowOf w w' v L := by
 obtain ⟨es, a, c, e1, e2, e3, e4⟩ := h.row
 exact ⟨⟨es, a, c, e1, e2.mono hb.size, e3, e4.mono hb.size⟩, bb hb h.bel⟩

end Go.Proofs.YtoioiddjbanahaaGreatDoor

namespace Go.Proofs.YtoioiddjbanahaaGreatDoor

open Go.RowKit

theorem tk_take {w : World} {a : Option Addr} {ts : List Tk} (h : TkRow w a ts) (m : Nat) : TkRow w a (ts.take m) := by
 intro j hj
 rw [List.length_take] at hj
 obtain ⟨b, o, aa, ca, e, hb, q⟩ := h j (by omega)
 rw [List.getElem_take]
 exact ⟨b, o, aa, ca, e, hb, q⟩

theorem sz_take {ts : List Tk} {b : Nat} (h : TksSz b ts) (m : Nat) : TksSz b (ts.take m) := fun t ht => h t (List.mem_of_mem_take ht)

def KindB (ts : List Tk) : Prop := ∀ t ∈ ts, -1 <= t.kind /\ t.kind < 50

theorem tree_kindB {ts : List Tk} (hT : TreeP ts) : KindB ts := fun t ht => by
 obtain ⟨i, hi, rfl⟩ := List.getElem_of_mem ht
 exact tree_kind hT (List.getElem?_eq_getElem hi)

set_option maxRecDepth 4000 in
set_option maxHeartbeats 8000000 in
theorem cPutL (a a2 : Option Addr) (cap cap2 : Nat) (ts br : List Tk) (e0 : Nat) (par : Int) (w : World) (hR : TkRow w a ts) (hR2 : TkRow w a2 br) (hK : KindB ts) (hK2 : KindB br) (he : e0 <= ts.length) (hc : ts.length <= cap) (hcm : cap <= maxLen) (hn : ts.length <= 50) (hn2 : br.length <= 50) (hz : TksSz 1048576 ts) (hz2 : TksSz 1048576 br) :
  Calls Tryz.prog 179 #[.slice a ts.length cap, .int .i64 (e0 : Int), .int .i64 par, .slice a2 br.length cap2] w fun e' w' => ∃ v, e' = .returned v /\ RowOf w w' v (putL ts e0 par br) := by
 have HR := hid hR
 have HZ := hid hz
 have HR2 := hid hR2
 have HZ2 := hid hz2
 have HK := hid hK
 have HK2 := hid hK2
 unfold maxLen at hcm
 have CT := hid (cCopyT a cap (ts.take e0) w (tk_take hR e0) (by rw [List.length_take]; omega) (sz_take hz e0))
 have hte : (ts.take e0).length = e0 := by rw [List.length_take]; omega
 rw [hte] at CT
 have HPT := hid (show putL ts e0 par br = (ts.take e0 ++ segN (fun i t => if i = 0 then par else t.kind + (e0 : Int)) br 0 br.length) ++ segN (fun _ t => if (e0 : Int) <= t.kind then t.kind + (br.length : Int) else t.kind) ts e0 (ts.length - e0) by unfold putL; rw [segN_same e0 he])
 rw [HPT.out]
 obtain ⟨n2, hnn2⟩ : ∃ n2, br.length = n2 := ⟨_, rfl⟩
 have HN2 := hid hnn2
 obtain ⟨n, hnn⟩ : ∃ n, ts.length = n := ⟨_, rfl⟩
 have HN := hid hnn
 rw [hnn2] at hn2 ⊢
 rw [hnn] at hn he hc ⊢
 obtain ⟨L0, hL0⟩ : ∃ L0, ts.take e0 ++ segN (fun i t => if i = 0 then par else t.kind + (e0 : Int)) br 0 n2 = L0 := ⟨_, rfl⟩
 have HL0 := hid (show L0.length <= 100 by rw [<- hL0, List.length_append, List.length_take, segN_len n2 (by rw [hnn2]; omega)]; omega)
 have HE0 := hid hL0
 rw [hL0]
 clear hL0
 clear hR hz hR2 hz2 hK hK2 hte HPT hnn hnn2
 have hec : (e0 : Int) <= (cap : Int) := by omega
 go_enter Tryz.func179, Tryz.ntmps179
 go_wp2_with fail
 refine CT.out.mono ?_
 rintro e1 w1 ⟨v1, rfl, hr1⟩
 have HX0 := hid hr1
 clear hr1 CT
 go_wp2_with fail
 go_loopw [9, 10] (fun v k wr => ∃ i : Nat, k = .int .i64 (i : Int) /\ i <= n2 /\ Hid (RowOf w wr v (ts.take e0 ++ segN (fun i t => if i = 0 then par else t.kind + (e0 : Int)) br 0 i))) (fun _ k _ => n2 - (intOf k).toNat)
 case atStart => exact ⟨0, rfl, Nat.zero_le _, by show RowOf _ _ _ (_ ++ []); rw [List.append_nil]; exact HX0.out⟩
 case round =>
  clear HX0
  obtain ⟨i, rfl, hi, HX⟩ := hrel
  by_cases hlt : i < n2
  ·have his : i < br.length := by rw [HN2.out]; exact hlt
   have hin : (i : Int) < (n2 : Int) := by omega
   have HTS := hid (segN_next (f := fun i t => if i = 0 then par else t.kind + (e0 : Int)) (ts := br) (k := 0) (m := i) (t := br[i]) (by rw [Nat.zero_add]; exact seg_of his))
   rw [Nat.zero_add] at HTS
   have HLT := hid (show (ts.take e0 ++ segN (fun i t => if i = 0 then par else t.kind + (e0 : Int)) br 0 i).length <= 1048576 by rw [List.length_append, List.length_take, segN_len i (by omega)]; omega)
   have hkb := HK2.out _ (List.getElem_mem his)
   have HZT := hid (HZ2.out _ (List.getElem_mem his))
   obtain ⟨b, o, aa, ca, e', hb, q0, q1, q2, q3, hA⟩ := (HR2.out.below HX.out.bel) i his
   subst e'
   have HAT := hid hA
   obtain ⟨t, ht⟩ : ∃ t, br[i] = t := ⟨_, rfl⟩
   rw [ht] at q0 q1 q2 q3 HAT HZT HTS hkb
   clear ht hA
   obtain ⟨nA, hnA⟩ : ∃ nA, t.attrs.length = nA := ⟨_, rfl⟩
   have HNA := hid hnA
   rw [hnA] at q2
   clear hnA
   have HL1 := hid ((Below.refl wr.heap.size wr).alloc (Nat.le_refl _) (.cells #[.int .i64 t.kind, .string t.name, .slice aa nA ca, .string t.text] 32))
   have CC := hid (fun wx (h : AtRow wx aa t.attrs) => cCopyO aa ca t.attrs wx h HZT.out.2.1)
   rw [HNA.out] at CC
   obtain ⟨K, hK⟩ : ∃ K, t.kind = K := ⟨_, rfl⟩
   have HKK := hid hK
   rw [hK] at q0 hkb HL1
   obtain ⟨hk1, hk2⟩ := hkb
   clear hK
   go_wp2_with fail
   refine (CC.out _ (HAT.out.below HL1.out)).mono ?_
   rintro e w2 ⟨a1, c1, rfl, ha1, hb2⟩
   have HBX := hid (Bx.made (c1 := c1) (t := t) (nA := nA) (aa := aa) (ca := ca) (a1 := a1) (w2 := w2) (by rw [HKK.out]; simpa using hb2) (by simpa using ha1))
   have M2 := hid (blk_below (heap_alloc_new _ _) hb2)
   obtain ⟨⟨x0, x1, x2, x3⟩, f0, f1, f2, f3⟩ := box4 M2.out
   clear ha1 hb2 CC HL1 q0 q1 q2 q3 hb M2
   obtain ⟨w3, hw3⟩ : ∃ w3, w2.setCell ⟨wr.heap.size, 2, none⟩ (.slice a1 nA c1) = w3 := ⟨_, rfl⟩
   rw [hw3] at HBX
   obtain ⟨⟨y0, y1, y2, y3⟩, g0, g1, g2, g3⟩ := box4 HBX.out.box
   rw [HKK.out] at y0
   have HBX4 := hid (HBX.out.kind (K + (e0 : Int)))
   obtain ⟨w4, hw4⟩ : ∃ w4, w3.setCell ⟨wr.heap.size, 0, none⟩ (.int .i64 (K + (e0 : Int))) = w4 := ⟨_, rfl⟩
   rw [hw4] at HBX4
   obtain ⟨⟨z0, z1, z2, z3⟩, h0, h1, h2, h3⟩ := box4 HBX4.out.box
   by_cases hm0 : i = 0
   ·have HBX5 := hid (HBX4.out.kind par)
    obtain ⟨w5, hw5⟩ : ∃ w5, w4.setCell ⟨wr.heap.size, 0, none⟩ (.int .i64 par) = w5 := ⟨_, rfl⟩
    rw [hw5] at HBX5
    obtain ⟨⟨v0, v1, v2, v3⟩, _⟩ := box4 HBX5.out.box
    have HFN := hid (show shK par (shK (K + (e0 : Int)) t) = shK (if i = 0 then par else t.kind + (e0 : Int)) t by rw [if_pos hm0]; rfl)
    have hqq : ((i : Int) == 0) = true := by simp; omega
    clear hm0
    go_wp2_with (at_builtin; refine wpL_bx w wr w5 rfl _ _ rfl u9 _ rfl HX.out (shK par (shK (K + (e0 : Int)) t)) a1 c1 nA rfl HNA.out HBX5.out HLT.out ?_)
    intro v6 w6 hr6
    have HR6 := hid hr6
    rw [HFN.out] at HR6
    try rw [List.append_assoc] at HR6
    rw [<- HTS.out] at HR6
    clear hr6 x0 x1 x2 x3 y0 y1 y2 y3 z0 z1 z2 z3 v0 v1 v2 v3 hw3 hw4 hw5
    go_wp2_with fail
    go_roundw
    case rel => exact ⟨i + 1, by go_num, by omega, HR6.out⟩
    case measure => simp [intOf]; omega
   ·have HFN := hid (show shK (K + (e0 : Int)) t = shK (if i = 0 then par else t.kind + (e0 : Int)) t by rw [if_neg hm0, HKK.out])
    have hqq : ((i : Int) == 0) = false := by simp; omega
    clear hm0
    go_wp2_with (at_builtin; refine wpL_bx w wr w4 rfl _ _ rfl u9 _ rfl HX.out (shK (K + (e0 : Int)) t) a1 c1 nA rfl HNA.out HBX4.out HLT.out ?_)
    intro v6 w6 hr6
    have HR6 := hid hr6
    rw [HFN.out] at HR6
    try rw [List.append_assoc] at HR6
    rw [<- HTS.out] at HR6
    clear hr6 x0 x1 x2 x3 y0 y1 y2 y3 z0 z1 z2 z3 hw3 hw4
    go_wp2_with fail
    go_roundw
    case rel => exact ⟨i + 1, by go_num, by omega, HR6.out⟩
    case measure => simp [intOf]; omega
  ·have hie : i = n2 := by omega
   subst hie
   rw [HE0.out] at HX
   clear HE0 HR2 HZ2 HK2
   go_wp2_with fail
   go_loopw [9, 12] (fun v k wr => ∃ m : Nat, k = .int .i64 ((e0 + m : Nat) : Int) /\ e0 + m <= n /\ Hid (RowOf w wr v (L0 ++ segN (fun _ t => if (e0 : Int) <= t.kind then t.kind + (i : Int) else t.kind) ts e0 m))) (fun _ k _ => n - (intOf k).toNat)
   case atStart => exact ⟨0, rfl, by omega, by show RowOf _ _ _ (_ ++ []); rw [List.append_nil]; exact HX.out⟩
   case round =>
    clear HX
    obtain ⟨m, rfl, hm, HX⟩ := hrel
    obtain ⟨j, hj⟩ : ∃ j, e0 + m = j := ⟨_, rfl⟩
    have HJ := hid hj
    rw [hj] at hm ⊢
    by_cases hjl : j < n
    ·have hjs : j < ts.length := by rw [HN.out]; exact hjl
     have hjn : (j : Int) < (n : Int) := by omega
     have HTS := hid (segN_next (f := fun _ t => if (e0 : Int) <= t.kind then t.kind + (i : Int) else t.kind) (ts := ts) (k := e0) (m := m) (t := ts[j]) (by rw [hj]; exact seg_of hjs))
     have HLT := hid (show (L0 ++ segN (fun _ t => if (e0 : Int) <= t.kind then t.kind + (i : Int) else t.kind) ts e0 m).length <= 1048576 by rw [List.length_append, segN_len m (by omega)]; have := HL0.out; omega)
     have hkb := HK.out _ (List.getElem_mem hjs)
     have HZT := hid (HZ.out _ (List.getElem_mem hjs))
     obtain ⟨b, o, aa, ca, e', hb, q0, q1, q2, q3, hA⟩ := (HR.out.below HX.out.bel) j hjs
     subst e'
     have HAT := hid hA
     obtain ⟨t, ht⟩ : ∃ t, ts[j] = t := ⟨_, rfl⟩
     rw [ht] at q0 q1 q2 q3 HAT HZT HTS hkb
     clear ht hA
     obtain ⟨nA, hnA⟩ : ∃ nA, t.attrs.length = nA := ⟨_, rfl⟩
     have HNA := hid hnA
     rw [hnA] at q2
     clear hnA hj
     have HL1 := hid ((Below.refl wr.heap.size wr).alloc (Nat.le_refl _) (.cells #[.int .i64 t.kind, .string t.name, .slice aa nA ca, .string t.text] 32))
     have CC := hid (fun wx (h : AtRow wx aa t.attrs) => cCopyO aa ca t.attrs wx h HZT.out.2.1)
     rw [HNA.out] at CC
     obtain ⟨K, hK⟩ : ∃ K, t.kind = K := ⟨_, rfl⟩
     have HKK := hid hK
     rw [hK] at q0 hkb HL1
     obtain ⟨hk1, hk2⟩ := hkb
     clear hK
     go_wp2_with fail
     refine (CC.out _ (HAT.out.below HL1.out)).mono ?_
     rintro e w2 ⟨a1, c1, rfl, ha1, hb2⟩
     have HBX := hid (Bx.made (c1 := c1) (t := t) (nA := nA) (aa := aa) (ca := ca) (a1 := a1) (w2 := w2) (by rw [HKK.out]; simpa using hb2) (by simpa using ha1))
     have M2 := hid (blk_below (heap_alloc_new _ _) hb2)
     obtain ⟨⟨x0, x1, x2, x3⟩, f0, f1, f2, f3⟩ := box4 M2.out
     clear ha1 hb2 CC HL1 q0 q1 q2 q3 hb M2
     obtain ⟨w3, hw3⟩ : ∃ w3, w2.setCell ⟨wr.heap.size, 2, none⟩ (.slice a1 nA c1) = w3 := ⟨_, rfl⟩
     rw [hw3] at HBX
     obtain ⟨⟨y0, y1, y2, y3⟩, g0, g1, g2, g3⟩ := box4 HBX.out.box
     rw [HKK.out] at y0
     by_cases hge : (e0 : Int) <= K
     ·have HBX4 := hid (HBX.out.kind (K + (i : Int)))
      obtain ⟨w4, hw4⟩ : ∃ w4, w3.setCell ⟨wr.heap.size, 0, none⟩ (.int .i64 (K + (i : Int))) = w4 := ⟨_, rfl⟩
      rw [hw4] at HBX4
      obtain ⟨⟨z0, z1, z2, z3⟩, h0, h1, h2, h3⟩ := box4 HBX4.out.box
      have HFN := hid (show shK (K + (i : Int)) t = shK (if (e0 : Int) <= t.kind then t.kind + (i : Int) else t.kind) t by rw [HKK.out, if_pos hge])
      have hgd : decide ((e0 : Int) <= K) = true := decide_eq_true hge
      go_wp2_with (at_builtin; refine wpL_bx w wr w4 rfl _ _ rfl u9 _ rfl HX.out (shK (K + (i : Int)) t) a1 c1 nA rfl HNA.out HBX4.out HLT.out ?_)
      intro v6 w6 hr6
      have HR6 := hid hr6
      rw [HFN.out] at HR6
      try rw [List.append_assoc] at HR6
      rw [<- HTS.out] at HR6
      clear hr6 x0 x1 x2 x3 y0 y1 y2 y3 z0 z1 z2 z3 hw3 hw4
      go_wp2_with fail
      go_roundw
      case rel => exact ⟨m + 1, by rw [<- HJ.out]; go_num, by have := HJ.out; omega, HR6.out⟩
      case measure => simp [intOf]; omega
     ·have HFN := hid (show shK K t = shK (if (e0 : Int) <= t.kind then t.kind + (i : Int) else t.kind) t by rw [HKK.out, if_neg hge])
      have HBX4 := hid (show Bx wr w3 (shK K t) nA a1 c1 by rw [show shK K t = t by rw [<- HKK.out]; rfl]; exact HBX.out)
      have hgd : decide ((e0 : Int) <= K) = false := decide_eq_false hge
      go_wp2_with (at_builtin; refine wpL_bx w wr w3 rfl _ _ rfl u9 _ rfl HX.out (shK K t) a1 c1 nA rfl HNA.out HBX4.out HLT.out ?_)
      intro v6 w6 hr6
      have HR6 := hid hr6
      rw [HFN.out] at HR6
      try rw [List.append_assoc] at HR6
      rw [<- HTS.out] at HR6
      clear hr6 x0 x1 x2 x3 y0 y1 y2 y3 hw3
      go_wp2_with fail
      go_roundw
      case rel => exact ⟨m + 1, by rw [<- HJ.out]; go_num, by have := HJ.out; omega, HR6.out⟩
      case measure => simp [intOf]; omega
    ·have hje : j = n := by omega
     subst hje
     have HY := hid (show RowOf w wr u9 (L0 ++ segN (fun _ t => if (e0 : Int) <= t.kind then t.kind + (i : Int) else t.kind) ts e0 (j - e0)) by
      have h := HX.out
      rw [show j - e0 = m by omega]
      exact h)
     clear HX
     go_wp2_with fail
     go_ret
     exact ⟨_, rfl, HY.out⟩

end Go.Proofs.YtoioiddjbanahaaGreatDoor

namespace Go.Proofs.YtoioiddjbanahaaGreatDoor

open Go.RowKit

theorem put_sz {ts br : List Tk} {e : Nat} {par : Int} {b : Nat} (h : TksSz b ts) (h2 : TksSz b br) : TksSz b (putL ts e par br) := by
 intro t ht
 unfold putL at ht
 rcases List.mem_append.1 ht with h' | h'
 ·rcases List.mem_append.1 h' with h'' | h''
  ·exact segN_sz h _ t h''
  ·exact segN_sz h2 _ t h''
 ·exact segN_sz h _ t h'

noncomputable def graftB (ts br : List Tk) (x : Int) : Bool := elemB ts x && (treeB br && treeB (putL ts (endN ts x.toNat) x br))

noncomputable def graftL (ts br : List Tk) (x : Int) : List Tk := if treeB ts then (if graftB ts br x then putL ts (endN ts x.toNat) x br else ts) else []

theorem elemB_tree {ts : List Tk} {x : Int} (h : treeB ts = false) : elemB ts x = false := by
 unfold elemB hasB
 rw [h]
 rfl

set_option maxRecDepth 4000 in
set_option maxHeartbeats 4000000 in
theorem cGraftedS (a a2 : Option Addr) (cap cap2 : Nat) (ts br : List Tk) (x : Int) (w : World) (hR : TkRow w a ts) (hR2 : TkRow w a2 br) (hc : ts.length <= cap) (hcm : cap <= maxLen) (hn : ts.length <= 1048576) (hn2 : br.length <= 1048576) (hz : TksSz 1048576 ts) (hz2 : TksSz 1048576 br) :
  Calls Tryz.prog 140 #[.slice a ts.length cap, .int .i64 x, .slice a2 br.length cap2] w (TreeAns w (graftL ts br x) (graftB ts br x)) := by
 have C := hid (cTreeOkS a cap ts w hR hn hz)
 have HR := hid hR
 have HR2 := hid hR2
 have CC := hid (fun wx (h : TkRow wx a ts) => cCopyT a cap ts wx h hn hz)
 cases hT : treeB ts with
 | false =>
  have HE := hid (And.intro (show graftL ts br x = [] by unfold graftL; rw [hT]; rfl) (show graftB ts br x = false by unfold graftB; rw [elemB_tree hT]; rfl))
  rw [HE.out.1, HE.out.2]
  rw [hT] at C
  clear hT HE hR hR2 hz hz2
  generalize ts.length = n at *
  generalize br.length = n2 at *
  go_enter Tryz.func140, Tryz.ntmps140
  go_wp2_with fail
  refine C.out.mono ?_
  rintro e w1 ⟨rfl, hb1⟩
  have HB1 := hid hb1
  clear hb1 C
  go_wp2_with fail
  go_ret2
  exact TreeAns.none HB1.out
 | true =>
  have CE := hid (fun wx (h : TkRow wx a ts) => c_spec_l9Element a cap ts x wx h hn hz)
  have CO := hid (fun wx (h : TkRow wx a2 br) => cTreeOkS a2 cap2 br wx h hn2 hz2)
  have HG := hid (show graftL ts br x = if graftB ts br x then putL ts (endN ts x.toNat) x br else ts by unfold graftL; rw [hT]; rfl)
  rw [HG.out]
  rw [hT] at C
  cases hE : elemB ts x with
  | false =>
   have HV := hid (show graftB ts br x = false by unfold graftB; rw [hE]; rfl)
   rw [HV.out]
   rw [hE] at CE
   show Calls _ _ _ _ (TreeAns w ts false)
   clear hT HG HV hR hR2 hz hz2 CO
   generalize ts.length = n at *
   generalize br.length = n2 at *
   go_enter Tryz.func140, Tryz.ntmps140
   go_wp2_with fail
   refine C.out.mono ?_
   rintro e w1 ⟨rfl, hb1⟩
   have HB1 := hid hb1
   clear hb1 C
   go_wp2_with fail
   refine (CE.out _ (HR.out.below HB1.out)).mono ?_
   rintro e w2 ⟨rfl, hb2⟩
   have HB2 := hid (bb HB1.out hb2)
   clear hb2 CE
   go_wp2_with fail
   refine (CC.out _ (HR.out.below HB2.out)).mono ?_
   rintro e w3 ⟨v3, rfl, hr3⟩
   have HR3 := hid (RowOf.later HB2.out hr3)
   clear hr3 CC
   go_wp2_with fail
   go_ret2
   exact ⟨_, rfl, HR3.out⟩
  | true =>
   rw [hE] at CE
   cases hB : treeB br with
   | false =>
    have HV := hid (show graftB ts br x = false by unfold graftB; rw [hB, Bool.false_and, Bool.and_false])
    rw [HV.out]
    rw [hB] at CO
    show Calls _ _ _ _ (TreeAns w ts false)
    clear hT HG HV hR hR2 hz hz2
    generalize ts.length = n at *
    generalize br.length = n2 at *
    go_enter Tryz.func140, Tryz.ntmps140
    go_wp2_with fail
    refine C.out.mono ?_
    rintro e w1 ⟨rfl, hb1⟩
    have HB1 := hid hb1
    clear hb1 C
    go_wp2_with fail
    refine (CE.out _ (HR.out.below HB1.out)).mono ?_
    rintro e w2 ⟨rfl, hb2⟩
    have HB2 := hid (bb HB1.out hb2)
    clear hb2 CE
    go_wp2_with fail
    refine (CO.out _ (HR2.out.below HB2.out)).mono ?_
    rintro e w3 ⟨rfl, hb3⟩
    have HB3 := hid (bb HB2.out hb3)
    clear hb3 CO
    go_wp2_with fail
    refine (CC.out _ (HR.out.below HB3.out)).mono ?_
    rintro e w4 ⟨v4, rfl, hr4⟩
    have HR4 := hid (RowOf.later HB3.out hr4)
    clear hr4 CC
    go_wp2_with fail
    go_ret2
    exact ⟨_, rfl, HR4.out⟩
   | true =>
    rw [hB] at CO
    obtain ⟨hTP, k, rfl, hk⟩ := elemB_t hE
    have hBP : TreeP br := by unfold treeB at hB; simpa using hB
    have CL := hid (fun wx (h : TkRow wx a ts) => cEndS a cap ts k wx h hk hn)
    have hle := endN_le hk
    have CP := hid (fun wx (h : TkRow wx a ts) (h2 : TkRow wx a2 br) => cPutL a a2 cap cap2 ts br (endN ts k) (k : Int) wx h h2 (tree_kindB hTP) (tree_kindB hBP) hle.2 hc hcm hTP.2.1 hBP.2.1 hz hz2)
    have HPL := hid (show (putL ts (endN ts k) (k : Int) br).length <= 1048576 by rw [putL_len hle.2]; have := hTP.2.1; have := hBP.2.1; omega)
    have HPZ := hid (put_sz (e := endN ts k) (par := (k : Int)) hz hz2)
    have HGB := hid (show graftB ts br (k : Int) = treeB (putL ts (endN ts k) (k : Int) br) by unfold graftB; rw [hE, hB]; rfl)
    rw [HGB.out]
    show Calls _ _ _ _ (TreeAns w (if treeB (putL ts (endN ts k) (k : Int) br) then putL ts (endN ts k) (k : Int) br else ts) _)
    obtain ⟨P, hP⟩ : ∃ P, putL ts (endN ts k) (k : Int) br = P := ⟨_, rfl⟩
    rw [hP] at CP HPL HPZ ⊢
    have CQ := hid (fun wx aP cP (h : TkRow wx aP P) => cTreeOkS aP cP P wx h HPL.out HPZ.out)
    obtain ⟨B, hBB⟩ : ∃ B, treeB P = B := ⟨_, rfl⟩
    rw [hBB] at CQ ⊢
    clear hT HG HGB hR hR2 hz hz2 hP hBB hE hB hTP hBP
    generalize endN ts k = E at *
    generalize ts.length = n at *
    generalize br.length = n2 at *
    obtain ⟨R, hRR⟩ : ∃ R, (if B = true then P else ts) = R := ⟨_, rfl⟩
    have HRR := hid hRR
    rw [hRR]
    clear hRR
    go_enter Tryz.func140, Tryz.ntmps140
    go_wp2_with fail
    refine C.out.mono ?_
    rintro e w1 ⟨rfl, hb1⟩
    have HB1 := hid hb1
    clear hb1 C
    go_wp2_with fail
    refine (CE.out _ (HR.out.below HB1.out)).mono ?_
    rintro e w2 ⟨rfl, hb2⟩
    have HB2 := hid (bb HB1.out hb2)
    clear hb2 CE
    go_wp2_with fail
    refine (CO.out _ (HR2.out.below HB2.out)).mono ?_
    rintro e w3 ⟨rfl, hb3⟩
    have HB3 := hid (bb HB2.out hb3)
    clear hb3 CO
    go_wp2_with fail
    refine (CL.out _ (HR.out.below HB3.out)).mono ?_
    rintro e w4 ⟨rfl, rfl⟩
    go_wp2_with fail
    refine (CP.out _ (HR.out.below HB3.out) (HR2.out.below HB3.out)).mono ?_
    rintro e w5 ⟨v5, rfl, hr5⟩
    have HR5 := hid (RowOf.later HB3.out hr5)
    obtain ⟨a5, c5, hv5, ht5⟩ := hr5.tk
    subst hv5
    have HT5 := hid ht5
    clear hr5 CP ht5
    obtain ⟨pn, hpn⟩ : ∃ pn, P.length = pn := ⟨_, rfl⟩
    rw [hpn] at CQ HR5 ⊢
    clear hpn
    go_wp2_with fail
    refine (CQ.out _ _ _ HT5.out).mono ?_
    rintro e w6 ⟨rfl, hb6⟩
    have HB6 := hid (bb HR5.out.bel hb6)
    have HR6 := hid (HR5.out.below hb6)
    clear hb6 CQ
    cases B with
    | false =>
     have HF := hid (show R = ts from HRR.out.symm)
     go_wp2_with fail
     refine (CC.out _ (HR.out.below HB6.out)).mono ?_
     rintro e w7 ⟨v7, rfl, hr7⟩
     have HR7 := hid (RowOf.later HB6.out hr7)
     clear hr7 CC
     go_wp2_with fail
     go_ret2
     exact ⟨_, rfl, by rw [HF.out]; exact HR7.out⟩
    | true =>
     have HF := hid (show R = P from HRR.out.symm)
     go_wp2_with fail
     go_ret2
     exact ⟨_, rfl, by rw [HF.out]; exact HR6.out⟩

end Go.Proofs.YtoioiddjbanahaaGreatDoor

namespace Go.Proofs.YtoioiddjbanahaaGreatDoor

open Go.RowKit

def sealTk (id sum sign : ByteArray) : Tk := ⟨-1, ⟨#[115, 58, 83, 101, 97, 108]⟩, [⟨⟨#[110, 115, 58, 115]⟩, sealM⟩, ⟨refS, id⟩, ⟨sumS, sum⟩, ⟨signS, sign⟩], ⟨#[]⟩⟩

noncomputable def signN (ts : List Tk) (k : Nat) (kn ke kd : Int) (id : ByteArray) : ByteArray := ⟨(dgL (lockI kn ke kd ((hsL (spokenF id (sumN ts k (-1))).data.toList : Nat) : Int))).toArray⟩

noncomputable def sealOf (ts : List Tk) (k : Nat) (kn ke kd : Int) : Tk := sealTk ((idAt ts k).getD ByteArray.empty) (sumN ts k (-1)) (signN ts k kn ke kd ((idAt ts k).getD ByteArray.empty))

noncomputable def goodB (ts : List Tk) (x kn ke kd : Int) : Bool := namesB ts && idsB ts && elemB ts x && decide ((sealsN ts x.toNat).length = 0) && okB kn ke kd && !decide (kd = 0) && (idAt ts x.toNat).isSome

noncomputable def sealingB (ts : List Tk) (x kn ke kd : Int) : Bool := goodB ts x kn ke kd && graftB ts [sealOf ts x.toNat kn ke kd] x

noncomputable def sealingL (ts : List Tk) (x kn ke kd : Int) : List Tk := if treeB ts then (if sealingB ts x kn ke kd then graftL ts [sealOf ts x.toNat kn ke kd] x else ts) else []

set_option maxHeartbeats 2000000 in
theorem cSealingS_tree (a : Option Addr) (cap : Nat) (ts : List Tk) (x kn ke kd : Int) (w : World) (hR : TkRow w a ts) (hn : ts.length <= 1048576) (hz : TksSz 1048576 ts) (hT : treeB ts = false) :
  Calls Tryz.prog 93 #[.slice a ts.length cap, .int .i64 x, .agg #[.int .i64 kn, .int .i64 ke, .int .i64 kd]] w (TreeAns w [] false) := by
 have HBA := hid ((Below.refl w.heap.size w).alloc (Nat.le_refl _) (.cells #[.int .i64 kn, .int .i64 ke, .int .i64 kd] 26))
 have C := hid (fun wx (hb : Below w.heap.size w wx) => cTreeOkS a cap ts wx (hR.below hb) hn hz)
 rw [hT] at C
 clear hR hz hT
 generalize ts.length = n at *
 go_enter Tryz.func93, Tryz.ntmps93
 go_wp2_with fail
 refine (C.out _ HBA.out).mono ?_
 rintro e w1 ⟨rfl, hb1⟩
 have HB1 := hid (bb HBA.out hb1)
 clear hb1 C HBA
 go_wp2_with fail
 go_ret2
 exact TreeAns.none HB1.out

set_option maxRecDepth 4000 in
set_option maxHeartbeats 16000000 in
theorem cSealingS_no (a : Option Addr) (cap : Nat) (ts : List Tk) (x kn ke kd : Int) (w : World) (hR : TkRow w a ts) (hn : ts.length <= 1048576) (hz : TksSz 1048576 ts) (hT : treeB ts = true) (hg : goodB ts x kn ke kd = false) :
  Calls Tryz.prog 93 #[.slice a ts.length cap, .int .i64 x, .agg #[.int .i64 kn, .int .i64 ke, .int .i64 kd]] w (TreeAns w ts false) := by
 have HBA := hid ((Below.refl w.heap.size w).alloc (Nat.le_refl _) (.cells #[.int .i64 kn, .int .i64 ke, .int .i64 kd] 26))
 have HBX := hid (box_key w (.int .i64 kn) (.int .i64 ke) (.int .i64 kd) 26)
 have C := hid (fun wx (hb : Below w.heap.size w wx) => cTreeOkS a cap ts wx (hR.below hb) hn hz)
 have CC := hid (fun wx (hb : Below w.heap.size w wx) => cCopyT a cap ts wx (hR.below hb) hn hz)
 have CN := hid (fun wx (hb : Below w.heap.size w wx) => cNamesOkS a cap ts wx (hR.below hb) hn hz)
 have CI := hid (fun wx (hb : Below w.heap.size w wx) => cIdsOkS a cap ts wx (hR.below hb) hn hz)
 have CE := hid (fun wx (hb : Below w.heap.size w wx) => c_spec_l9Element a cap ts x wx (hR.below hb) hn hz)
 have CK := hid (fun wx (hb : Below w.heap.size w wx) => cKeyOkS kn ke kd wx)
 rw [hT] at C
 unfold goodB at hg
 cases h1 : namesB ts with
 | false =>
  rw [h1] at CN
  clear hR hz hT hg h1 CI CE CK HBX
  generalize ts.length = n at *
  go_enter Tryz.func93, Tryz.ntmps93
  go_wp2_with fail
  refine (C.out _ HBA.out).mono ?_
  rintro e w1 ⟨rfl, hb1⟩
  have HB1 := hid (bb HBA.out hb1)
  have HA1 := hid hb1
  clear hb1 C HBA
  go_wp2_with fail
  refine (CC.out _ HB1.out).mono ?_
  rintro e w2 ⟨v8, rfl, hr2⟩
  have HB2 := hid (bb HB1.out hr2.bel)
  have HA2 := hid (bb HA1.out hr2.bel)
  have HS2 := hid (RowOf.later HB1.out hr2)
  clear hr2 CC HB1 HA1
  go_wp2_with fail
  refine (CN.out _ HB2.out).mono ?_
  rintro e w3 ⟨rfl, hb⟩
  have HB3 := hid (bb HB2.out hb)
  have HA3 := hid (bb HA2.out hb)
  have HS3 := hid (HS2.out.below hb)
  clear hb CN HB2 HA2 HS2
  go_wp2_with fail
  go_ret2
  exact ⟨_, rfl, HS3.out⟩
 | true =>
  rw [h1] at CN
  cases h2 : idsB ts with
  | false =>
   rw [h2] at CI
   clear hR hz hT hg h1 h2 CE CK HBX
   generalize ts.length = n at *
   go_enter Tryz.func93, Tryz.ntmps93
   go_wp2_with fail
   refine (C.out _ HBA.out).mono ?_
   rintro e w1 ⟨rfl, hb1⟩
   have HB1 := hid (bb HBA.out hb1)
   have HA1 := hid hb1
   clear hb1 C HBA
   go_wp2_with fail
   refine (CC.out _ HB1.out).mono ?_
   rintro e w2 ⟨v8, rfl, hr2⟩
   have HB2 := hid (bb HB1.out hr2.bel)
   have HA2 := hid (bb HA1.out hr2.bel)
   have HS2 := hid (RowOf.later HB1.out hr2)
   clear hr2 CC HB1 HA1
   go_wp2_with fail
   refine (CN.out _ HB2.out).mono ?_
   rintro e w3 ⟨rfl, hb⟩
   have HB3 := hid (bb HB2.out hb)
   have HA3 := hid (bb HA2.out hb)
   have HS3 := hid (HS2.out.below hb)
   clear hb CN HB2 HA2 HS2
   go_wp2_with fail
   refine (CI.out _ HB3.out).mono ?_
   rintro e w4 ⟨rfl, hb⟩
   have HB4 := hid (bb HB3.out hb)
   have HA4 := hid (bb HA3.out hb)
   have HS4 := hid (HS3.out.below hb)
   clear hb CI HB3 HA3 HS3
   go_wp2_with fail
   go_ret2
   exact ⟨_, rfl, HS4.out⟩
  | true =>
   rw [h2] at CI
   cases h3 : elemB ts x with
   | false =>
    rw [h3] at CE
    clear hR hz hT hg h1 h2 h3 CK HBX
    generalize ts.length = n at *
    go_enter Tryz.func93, Tryz.ntmps93
    go_wp2_with fail
    refine (C.out _ HBA.out).mono ?_
    rintro e w1 ⟨rfl, hb1⟩
    have HB1 := hid (bb HBA.out hb1)
    have HA1 := hid hb1
    clear hb1 C HBA
    go_wp2_with fail
    refine (CC.out _ HB1.out).mono ?_
    rintro e w2 ⟨v8, rfl, hr2⟩
    have HB2 := hid (bb HB1.out hr2.bel)
    have HA2 := hid (bb HA1.out hr2.bel)
    have HS2 := hid (RowOf.later HB1.out hr2)
    clear hr2 CC HB1 HA1
    go_wp2_with fail
    refine (CN.out _ HB2.out).mono ?_
    rintro e w3 ⟨rfl, hb⟩
    have HB3 := hid (bb HB2.out hb)
    have HA3 := hid (bb HA2.out hb)
    have HS3 := hid (HS2.out.below hb)
    clear hb CN HB2 HA2 HS2
    go_wp2_with fail
    refine (CI.out _ HB3.out).mono ?_
    rintro e w4 ⟨rfl, hb⟩
    have HB4 := hid (bb HB3.out hb)
    have HA4 := hid (bb HA3.out hb)
    have HS4 := hid (HS3.out.below hb)
    clear hb CI HB3 HA3 HS3
    go_wp2_with fail
    refine (CE.out _ HB4.out).mono ?_
    rintro e w5 ⟨rfl, hb⟩
    have HB5 := hid (bb HB4.out hb)
    have HA5 := hid (bb HA4.out hb)
    have HS5 := hid (HS4.out.below hb)
    clear hb CE HB4 HA4 HS4
    go_wp2_with fail
    go_ret2
    exact ⟨_, rfl, HS5.out⟩
   | true =>
    rw [h3] at CE
    obtain ⟨hTP, k, rfl, hk⟩ := elemB_t h3
    have hkn : (k : Int) < (ts.length : Int) := by omega
    have CS := hid (fun wx (hb : Below w.heap.size w wx) => c_spec_l13Seals a cap ts k wx (hR.below hb) hTP hk hn hz)
    have CV := hid (fun wx (hb : Below w.heap.size w wx) => cIdAtS (hR.below hb) hn hz hk)
    rw [h1, h2, h3] at hg
    replace hg : (decide ((sealsN ts k).length = 0) && okB kn ke kd && !decide (kd = 0) && (idAt ts k).isSome) = false := hg
    obtain ⟨L, hL⟩ : ∃ L, sealsN ts k = L := ⟨_, rfl⟩
    rw [hL] at CS hg
    by_cases h4 : L.length = 0
    case neg =>
     have e4 : 0 < L.length := by omega
     have e5 : decide (0 < L.length) = true := decide_eq_true e4
     clear hR hz hT hg h1 h2 h3 h4 hTP hk hL CK CV HBX
     generalize ts.length = n at *
     go_enter Tryz.func93, Tryz.ntmps93
     go_wp2_with fail
     refine (C.out _ HBA.out).mono ?_
     rintro e w1 ⟨rfl, hb1⟩
     have HB1 := hid (bb HBA.out hb1)
     have HA1 := hid hb1
     clear hb1 C HBA
     go_wp2_with fail
     refine (CC.out _ HB1.out).mono ?_
     rintro e w2 ⟨v8, rfl, hr2⟩
     have HB2 := hid (bb HB1.out hr2.bel)
     have HA2 := hid (bb HA1.out hr2.bel)
     have HS2 := hid (RowOf.later HB1.out hr2)
     clear hr2 CC HB1 HA1
     go_wp2_with fail
     refine (CN.out _ HB2.out).mono ?_
     rintro e w3 ⟨rfl, hb⟩
     have HB3 := hid (bb HB2.out hb)
     have HA3 := hid (bb HA2.out hb)
     have HS3 := hid (HS2.out.below hb)
     clear hb CN HB2 HA2 HS2
     go_wp2_with fail
     refine (CI.out _ HB3.out).mono ?_
     rintro e w4 ⟨rfl, hb⟩
     have HB4 := hid (bb HB3.out hb)
     have HA4 := hid (bb HA3.out hb)
     have HS4 := hid (HS3.out.below hb)
     clear hb CI HB3 HA3 HS3
     go_wp2_with fail
     refine (CE.out _ HB4.out).mono ?_
     rintro e w5 ⟨rfl, hb⟩
     have HB5 := hid (bb HB4.out hb)
     have HA5 := hid (bb HA4.out hb)
     have HS5 := hid (HS4.out.below hb)
     clear hb CE HB4 HA4 HS4
     go_wp2_with fail
     refine (CS.out _ HB5.out).mono ?_
     rintro e w6 ⟨v9, rfl, ho9, hb⟩
     obtain ⟨a9, c9, rfl, -⟩ := own64 ho9
     have HB6 := hid (bb HB5.out hb)
     have HA6 := hid (bb HA5.out hb)
     have HS6 := hid (HS5.out.below hb)
     clear hb ho9 CS HB5 HA5 HS5
     go_wp2_with fail
     go_ret2
     exact ⟨_, rfl, HS6.out⟩
    case pos =>
     rw [decide_eq_true h4, Bool.true_and] at hg
     obtain rfl : L = [] := List.eq_nil_of_length_eq_zero h4
     cases h5 : okB kn ke kd with
     | false =>
      rw [h5] at CK
      clear hR hz hT hg h1 h2 h3 h4 h5 hTP hk hL CV
      generalize ts.length = n at *
      go_enter Tryz.func93, Tryz.ntmps93
      go_wp2_with fail
      refine (C.out _ HBA.out).mono ?_
      rintro e w1 ⟨rfl, hb1⟩
      have HB1 := hid (bb HBA.out hb1)
      have HA1 := hid hb1
      clear hb1 C HBA
      go_wp2_with fail
      refine (CC.out _ HB1.out).mono ?_
      rintro e w2 ⟨v8, rfl, hr2⟩
      have HB2 := hid (bb HB1.out hr2.bel)
      have HA2 := hid (bb HA1.out hr2.bel)
      have HS2 := hid (RowOf.later HB1.out hr2)
      clear hr2 CC HB1 HA1
      go_wp2_with fail
      refine (CN.out _ HB2.out).mono ?_
      rintro e w3 ⟨rfl, hb⟩
      have HB3 := hid (bb HB2.out hb)
      have HA3 := hid (bb HA2.out hb)
      have HS3 := hid (HS2.out.below hb)
      clear hb CN HB2 HA2 HS2
      go_wp2_with fail
      refine (CI.out _ HB3.out).mono ?_
      rintro e w4 ⟨rfl, hb⟩
      have HB4 := hid (bb HB3.out hb)
      have HA4 := hid (bb HA3.out hb)
      have HS4 := hid (HS3.out.below hb)
      clear hb CI HB3 HA3 HS3
      go_wp2_with fail
      refine (CE.out _ HB4.out).mono ?_
      rintro e w5 ⟨rfl, hb⟩
      have HB5 := hid (bb HB4.out hb)
      have HA5 := hid (bb HA4.out hb)
      have HS5 := hid (HS4.out.below hb)
      clear hb CE HB4 HA4 HS4
      go_wp2_with fail
      refine (CS.out _ HB5.out).mono ?_
      rintro e w6 ⟨v9, rfl, ho9, hb⟩
      obtain ⟨a9, c9, rfl, -⟩ := own64 ho9
      have HB6 := hid (bb HB5.out hb)
      have HA6 := hid (bb HA5.out hb)
      have HS6 := hid (HS5.out.below hb)
      clear hb ho9 CS HB5 HA5 HS5
      have d0 := (HA6.out.cell (p := ⟨w.heap.size, 0, none⟩) HBX.out.2.2.2).trans HBX.out.1
      have d1 := (HA6.out.cell (p := ⟨w.heap.size, 1, none⟩) HBX.out.2.2.2).trans HBX.out.2.1
      have d2 := (HA6.out.cell (p := ⟨w.heap.size, 2, none⟩) HBX.out.2.2.2).trans HBX.out.2.2.1
      go_wp2_with fail
      refine (CK.out _ HB6.out).mono ?_
      rintro e w7 ⟨rfl, hb⟩
      have HB7 := hid (bb HB6.out hb)
      have HA7 := hid (bb HA6.out hb)
      have HS7 := hid (HS6.out.below hb)
      clear hb CK HB6 HA6 HS6
      clear d0 d1 d2
      have d0 := (HA7.out.cell (p := ⟨w.heap.size, 0, none⟩) HBX.out.2.2.2).trans HBX.out.1
      have d1 := (HA7.out.cell (p := ⟨w.heap.size, 1, none⟩) HBX.out.2.2.2).trans HBX.out.2.1
      have d2 := (HA7.out.cell (p := ⟨w.heap.size, 2, none⟩) HBX.out.2.2.2).trans HBX.out.2.2.1
      go_wp2_with fail
      go_ret2
      exact ⟨_, rfl, HS7.out⟩
     | true =>
      rw [h5] at CK hg
      rw [Bool.true_and] at hg
      by_cases h6 : kd = 0
      case pos =>
       have e6 : (kd == 0) = true := by simp [h6]
       clear hR hz hT hg h1 h2 h3 h4 h5 h6 hTP hk hL CV
       generalize ts.length = n at *
       go_enter Tryz.func93, Tryz.ntmps93
       go_wp2_with fail
       refine (C.out _ HBA.out).mono ?_
       rintro e w1 ⟨rfl, hb1⟩
       have HB1 := hid (bb HBA.out hb1)
       have HA1 := hid hb1
       clear hb1 C HBA
       go_wp2_with fail
       refine (CC.out _ HB1.out).mono ?_
       rintro e w2 ⟨v8, rfl, hr2⟩
       have HB2 := hid (bb HB1.out hr2.bel)
       have HA2 := hid (bb HA1.out hr2.bel)
       have HS2 := hid (RowOf.later HB1.out hr2)
       clear hr2 CC HB1 HA1
       go_wp2_with fail
       refine (CN.out _ HB2.out).mono ?_
       rintro e w3 ⟨rfl, hb⟩
       have HB3 := hid (bb HB2.out hb)
       have HA3 := hid (bb HA2.out hb)
       have HS3 := hid (HS2.out.below hb)
       clear hb CN HB2 HA2 HS2
       go_wp2_with fail
       refine (CI.out _ HB3.out).mono ?_
       rintro e w4 ⟨rfl, hb⟩
       have HB4 := hid (bb HB3.out hb)
       have HA4 := hid (bb HA3.out hb)
       have HS4 := hid (HS3.out.below hb)
       clear hb CI HB3 HA3 HS3
       go_wp2_with fail
       refine (CE.out _ HB4.out).mono ?_
       rintro e w5 ⟨rfl, hb⟩
       have HB5 := hid (bb HB4.out hb)
       have HA5 := hid (bb HA4.out hb)
       have HS5 := hid (HS4.out.below hb)
       clear hb CE HB4 HA4 HS4
       go_wp2_with fail
       refine (CS.out _ HB5.out).mono ?_
       rintro e w6 ⟨v9, rfl, ho9, hb⟩
       obtain ⟨a9, c9, rfl, -⟩ := own64 ho9
       have HB6 := hid (bb HB5.out hb)
       have HA6 := hid (bb HA5.out hb)
       have HS6 := hid (HS5.out.below hb)
       clear hb ho9 CS HB5 HA5 HS5
       have d0 := (HA6.out.cell (p := ⟨w.heap.size, 0, none⟩) HBX.out.2.2.2).trans HBX.out.1
       have d1 := (HA6.out.cell (p := ⟨w.heap.size, 1, none⟩) HBX.out.2.2.2).trans HBX.out.2.1
       have d2 := (HA6.out.cell (p := ⟨w.heap.size, 2, none⟩) HBX.out.2.2.2).trans HBX.out.2.2.1
       go_wp2_with fail
       refine (CK.out _ HB6.out).mono ?_
       rintro e w7 ⟨rfl, hb⟩
       have HB7 := hid (bb HB6.out hb)
       have HA7 := hid (bb HA6.out hb)
       have HS7 := hid (HS6.out.below hb)
       clear hb CK HB6 HA6 HS6
       clear d0 d1 d2
       have d0 := (HA7.out.cell (p := ⟨w.heap.size, 0, none⟩) HBX.out.2.2.2).trans HBX.out.1
       have d1 := (HA7.out.cell (p := ⟨w.heap.size, 1, none⟩) HBX.out.2.2.2).trans HBX.out.2.1
       have d2 := (HA7.out.cell (p := ⟨w.heap.size, 2, none⟩) HBX.out.2.2.2).trans HBX.out.2.2.1
       go_wp2_with fail
       go_ret2
       exact ⟨_, rfl, HS7.out⟩
      case neg =>
       have e6 : (kd == 0) = false := by simp [h6]
       rw [decide_eq_false h6, Bool.not_false, Bool.true_and] at hg
       rw [hg] at CV
       generalize (idAt ts k).getD ByteArray.empty = ID at *
       clear hR hz hT hg h1 h2 h3 h4 h5 h6 hTP hk hL
       generalize ts.length = n at *
       go_enter Tryz.func93, Tryz.ntmps93
       go_wp2_with fail
       refine (C.out _ HBA.out).mono ?_
       rintro e w1 ⟨rfl, hb1⟩
       have HB1 := hid (bb HBA.out hb1)
       have HA1 := hid hb1
       clear hb1 C HBA
       go_wp2_with fail
       refine (CC.out _ HB1.out).mono ?_
       rintro e w2 ⟨v8, rfl, hr2⟩
       have HB2 := hid (bb HB1.out hr2.bel)
       have HA2 := hid (bb HA1.out hr2.bel)
       have HS2 := hid (RowOf.later HB1.out hr2)
       clear hr2 CC HB1 HA1
       go_wp2_with fail
       refine (CN.out _ HB2.out).mono ?_
       rintro e w3 ⟨rfl, hb⟩
       have HB3 := hid (bb HB2.out hb)
       have HA3 := hid (bb HA2.out hb)
       have HS3 := hid (HS2.out.below hb)
       clear hb CN HB2 HA2 HS2
       go_wp2_with fail
       refine (CI.out _ HB3.out).mono ?_
       rintro e w4 ⟨rfl, hb⟩
       have HB4 := hid (bb HB3.out hb)
       have HA4 := hid (bb HA3.out hb)
       have HS4 := hid (HS3.out.below hb)
       clear hb CI HB3 HA3 HS3
       go_wp2_with fail
       refine (CE.out _ HB4.out).mono ?_
       rintro e w5 ⟨rfl, hb⟩
       have HB5 := hid (bb HB4.out hb)
       have HA5 := hid (bb HA4.out hb)
       have HS5 := hid (HS4.out.below hb)
       clear hb CE HB4 HA4 HS4
       go_wp2_with fail
       refine (CS.out _ HB5.out).mono ?_
       rintro e w6 ⟨v9, rfl, ho9, hb⟩
       obtain ⟨a9, c9, rfl, -⟩ := own64 ho9
       have HB6 := hid (bb HB5.out hb)
       have HA6 := hid (bb HA5.out hb)
       have HS6 := hid (HS5.out.below hb)
       clear hb ho9 CS HB5 HA5 HS5
       have d0 := (HA6.out.cell (p := ⟨w.heap.size, 0, none⟩) HBX.out.2.2.2).trans HBX.out.1
       have d1 := (HA6.out.cell (p := ⟨w.heap.size, 1, none⟩) HBX.out.2.2.2).trans HBX.out.2.1
       have d2 := (HA6.out.cell (p := ⟨w.heap.size, 2, none⟩) HBX.out.2.2.2).trans HBX.out.2.2.1
       go_wp2_with fail
       refine (CK.out _ HB6.out).mono ?_
       rintro e w7 ⟨rfl, hb⟩
       have HB7 := hid (bb HB6.out hb)
       have HA7 := hid (bb HA6.out hb)
       have HS7 := hid (HS6.out.below hb)
       clear hb CK HB6 HA6 HS6
       clear d0 d1 d2
       have d0 := (HA7.out.cell (p := ⟨w.heap.size, 0, none⟩) HBX.out.2.2.2).trans HBX.out.1
       have d1 := (HA7.out.cell (p := ⟨w.heap.size, 1, none⟩) HBX.out.2.2.2).trans HBX.out.2.1
       have d2 := (HA7.out.cell (p := ⟨w.heap.size, 2, none⟩) HBX.out.2.2.2).trans HBX.out.2.2.1
       obtain ⟨b, o, aa, na, ca, rfl, c2, hcall⟩ := CV.out _ HB7.out
       have HC := hid hcall
       clear hcall CV
       go_wp2_with fail
       refine HC.out.mono ?_
       rintro e w8 ⟨rfl, rfl⟩
       clear HC c2
       go_wp2_with fail
       go_ret2
       exact ⟨_, rfl, HS7.out⟩

end Go.Proofs.YtoioiddjbanahaaGreatDoor
