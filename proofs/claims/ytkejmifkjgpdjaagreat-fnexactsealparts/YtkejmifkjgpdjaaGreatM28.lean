/- Seals in the program: contract of sealAt. Identifiers in the program: plain mathematics, and the contracts of the signs of an identifier, of allSigns over them, idOk. Pairs of a meaning and a local in place of keys (mathematics alone); contracts of slices.Index and slices.Contains over a row of pairs. -/
import Derived.Test.YtkejmifkjgpdjaaGreatM27
import Derived.Test.YtkejmifkjgpdjaaGreatM17
import Derived.Test.YtkejmifkjgpdjaaGreatM26
import Derived.Deep.QuietTactic
import Derived.BigQuiet
namespace Go.Proofs.YtkejmifkjgpdjaaGreat
open Go.RowKit
set_option linter.unusedVariables false
set_option linter.unusedSimpArgs false

/-- The sign of a seal as it is written. -/
def sgnT (l : List At) : ByteArray := (valF l signS).getD ByteArray.empty

/-- What the program tells of a seal. -/
def wordsV (r s g : ByteArray) : Value := .agg #[.string r, .string s, .string g]

noncomputable def wordsX (ts : List Tk) (x : Int) : Value := if sealX ts x = true then wordsV (refF (atsJ ts x.toNat)) (sumF (atsJ ts x.toNat)) (sgnT (atsJ ts x.toNat)) else wordsV ⟨#[]⟩ ⟨#[]⟩ ⟨#[]⟩

theorem box3e {w : World} {g : Nat} {x y z : Value} {T : TypeId} (h : w.heap[g]? = some (.cells #[x, y, z] T (0, 0))) : (w.cell? ⟨g, 0, none⟩ = some x ∧ w.cell? ⟨g, 1, none⟩ = some y ∧ w.cell? ⟨g, 2, none⟩ = some z) ∧ (w.frozen? ⟨g, 0, none⟩ = false ∧ w.frozen? ⟨g, 1, none⟩ = false ∧ w.frozen? ⟨g, 2, none⟩ = false) :=
  ⟨⟨by rw [Lib.cell_of_heap h]; rfl, by rw [Lib.cell_of_heap h]; rfl, by rw [Lib.cell_of_heap h]; rfl⟩, Lib.frozen_of_heap h 0, Lib.frozen_of_heap h 1, Lib.frozen_of_heap h 2⟩

/-- ValueIn of the program, at a node of the row. -/
theorem cValAtI {w : World} {a : Option Addr} {ts : List Tk} (hR : TkRow w a ts) (hz : TksSz 1048576 ts) {k : Nat} (hk : k < ts.length) :
    ∃ b o aa na ca, a = some ⟨b, o, none⟩ ∧ w.cell? ⟨b, o + k * 4 + 2, none⟩ = some (.slice aa na ca) ∧ na = (atsJ ts k).length ∧ AtRow w aa (atsJ ts k) := by
  obtain ⟨b, o, aa, ca, e, c2, hA⟩ := ats_row hR hk
  have e2 : atsJ ts k = ts[k].attrs := by unfold atsJ; rw [List.getElem?_eq_getElem hk]
  rw [e2]
  exact ⟨b, o, aa, _, ca, e, c2, rfl, hA⟩

set_option maxRecDepth 8000 in
set_option maxHeartbeats 8000000 in
theorem cSealAt (a : Option Addr) (cap : Nat) (ts : List Tk) (x : Int) (w : World) (hR : TkRow w a ts) (hn : ts.length ≤ 1048576) (hz : TksSz 1048576 ts) (hT : TreeP ts) :
    Calls Tryz.prog 54 #[.slice a ts.length cap, .int .i64 x] w fun e w' => e = .returned (.tuple #[wordsX ts x, .bool (sealX ts x)]) ∧ Below w.heap.size w w' := by
  have HS := hid (sealX_is hT x)
  obtain ⟨w0, hw0⟩ : ∃ w0, w.alloc (.cells #[.string ⟨#[]⟩, .string ⟨#[]⟩, .string ⟨#[]⟩] 48) = w0 := ⟨_, rfl⟩
  have HB0 := hid (show Below w.heap.size w w0 by rw [← hw0]; exact (Below.refl w.heap.size w).alloc (Nat.le_refl _) _)
  have M0 := hid (show w0.heap[w.heap.size]? = some (.cells #[.string ⟨#[]⟩, .string ⟨#[]⟩, .string ⟨#[]⟩] 48) by rw [← hw0]; exact heap_alloc_new w _)
  have CK := hid (cKnownI a cap ts x sealS sealM w0 (hR.below HB0.out) hn hz (by decide) (by decide))
  have CC := hid (fun wx (hb : Below w.heap.size w wx) => cKidsOfI a cap ts x wx (hR.below hb) hn hz)
  have HNO := hid (fun (h : sealX ts x = false) => (show wordsX ts x = wordsV ⟨#[]⟩ ⟨#[]⟩ ⟨#[]⟩ by unfold wordsX; rw [h]; rfl))
  cases hK : knownI ts x sealS sealM with
  | false =>
    rw [hK] at HS CK
    have HV := hid (show sealX ts x = false from HS.out)
    rw [HNO.out HV.out, HV.out]
    unfold wordsV
    clear HV HNO HS hR hz hK CC hT
    generalize ts.length = n at *
    go_enter Tryz.func54, Tryz.ntmps54
    go_wp2_with fail
    refine CK.out.mono ?_
    rintro e w1 ⟨rfl, hb1⟩
    have HB1 := hid (bb HB0.out hb1)
    obtain ⟨⟨y0, y1, y2⟩, f0, f1, f2⟩ := box3e (blk_below M0.out hb1)
    clear hb1 CK M0 HB0 hw0
    go_wp2_with fail
    refine bodyPost_ret (v := .tuple #[.agg #[.string ⟨#[]⟩, .string ⟨#[]⟩, .string ⟨#[]⟩], .bool false]) (by simp [results, Tryz.results54, go_sem, y0, y1, y2]) rfl ⟨rfl, ?_⟩
    iterate 3 refine Below.setCell ?_ (show w.heap.size ≤ w.heap.size from Nat.le_refl _) _
    exact HB1.out
  | true =>
    rw [hK] at HS CK
    obtain ⟨k, rfl, hk⟩ : ∃ k : Nat, x = k ∧ k < ts.length := by
      unfold knownI at hK
      rw [Bool.and_eq_true] at hK
      exact (elemB_t hK.1).2
    have hx1 : (k : Int) < (ts.length : Int) := by omega
    obtain ⟨nk, hnk⟩ : ∃ nk, (kidsI ts (k : Int)).length = nk := ⟨_, rfl⟩
    rw [hnk] at HS CC
    by_cases h0 : nk = 0
    case neg =>
      have hd : 0 < nk := by omega
      have HV := hid (show sealX ts (k : Int) = false by rw [HS.out, decide_eq_false h0]; rfl)
      rw [HNO.out HV.out, HV.out]
      unfold wordsV
      clear HV HNO HS hR hz hK hT hnk
      generalize ts.length = n at *
      go_enter Tryz.func54, Tryz.ntmps54
      go_wp2_with fail
      refine CK.out.mono ?_
      rintro e w1 ⟨rfl, hb1⟩
      have HB1 := hid (bb HB0.out hb1)
      have M1 := hid (blk_below M0.out hb1)
      clear hb1 CK M0 HB0 hw0
      go_wp2_with fail
      refine (CC.out _ HB1.out).mono ?_
      rintro e w2 ⟨v, rfl, ho, hb2⟩
      have HB2 := hid (bb HB1.out hb2)
      obtain ⟨⟨y0, y1, y2⟩, f0, f1, f2⟩ := box3e (blk_below M1.out hb2)
      obtain ⟨a6, c6, rfl⟩ : ∃ a c, v = .slice a nk c := by
        rcases ho.2 with ⟨_, h'⟩ | ⟨g', cap', cur, h', _⟩
        · exact absurd h' h0
        · exact ⟨_, _, h'⟩
      clear hb2 CC M1 HB1 ho h0
      go_wp2_with fail
      refine bodyPost_ret (v := .tuple #[.agg #[.string ⟨#[]⟩, .string ⟨#[]⟩, .string ⟨#[]⟩], .bool false]) (by simp [results, Tryz.results54, go_sem, y0, y1, y2]) rfl ⟨rfl, ?_⟩
      iterate 3 refine Below.setCell ?_ (show w.heap.size ≤ w.heap.size from Nat.le_refl _) _
      exact HB2.out
    case pos =>
      subst h0
      have hd : decide ((0 : Int) < ((0 : Nat) : Int)) = false := by decide
      obtain ⟨b, o, aa, na, ca, rfl, -, hna, -⟩ := cValAtI hR hz hk
      have HROW := hid (fun wx (hb : Below w.heap.size w wx) => cValAtI (hR.below hb) hz hk)
      have HZ := hid (ats_sz hz hk)
      have hlen : na ≤ 1048576 := by
        rw [hna]
        have e2 : atsJ ts k = ts[k].attrs := by unfold atsJ; rw [List.getElem?_eq_getElem hk]
        rw [e2]
        exact (hz _ (List.getElem_mem hk)).2.1
      have HT : Hid (sealX ts (k : Int) = true → wordsX ts (k : Int) = wordsV (refF (atsJ ts k)) (sumF (atsJ ts k)) (sgnT (atsJ ts k))) := fun h => by unfold wordsX; rw [h]; rfl
      have HSS := hid (show sealX ts (k : Int) = sealJ (atsJ ts k) by rw [HS.out]; rfl)
      have hkn : (k : Int) < (ts.length : Int) := hx1
      clear HS hR hz hK hT hnk
      generalize wordsX ts (k : Int) = WV at *
      generalize sealX ts (k : Int) = SV at *
      generalize ts.length = n at *
      unfold sealJ at HSS
      unfold refF sumF sgnT at HT
      generalize hL : atsJ ts k = L at *
      clear hL
      have CJ := hid (fun (aa : Option Addr) (ca : Nat) (wx : World) (h : AtRow wx aa L) => cJustAttrs aa ca L wx.heap.size (wx.alloc (.cells #[.string ⟨#[82, 101, 102]⟩, .string ⟨#[83, 117, 109]⟩, .string ⟨#[83, 105, 103, 110]⟩] 9)) (h.below ((Below.refl wx.heap.size wx).alloc (Nat.le_refl _) _)) HZ.out (by rw [← hna]; exact hlen) (three_row wx))
      have CV := hid (fun (aa : Option Addr) (ca : Nat) (s : ByteArray) (hs : s.size ≤ 1048576) (wx : World) (h : AtRow wx aa L) => cValueInI aa ca L s wx h HZ.out (by rw [← hna]; exact hlen) hs)
      have HZR := hid (val_sz HZ.out refS)
      have HZS := hid (val_sz HZ.out sumS)
      have HZG := hid (val_sz HZ.out signS)
      have CDS := hid (fun wx => cDigitsOk ((valF L sumS).getD ByteArray.empty) wx HZS.out)
      have CDG := hid (fun wx => cDigitsOk ((valF L signS).getD ByteArray.empty) wx HZG.out)
      have CVR := hid (fun aa ca wx h => CV.out aa ca refS (by decide) wx h)
      have CVS := hid (fun aa ca wx h => CV.out aa ca sumS (by decide) wx h)
      have CVG := hid (fun aa ca wx h => CV.out aa ca signS (by decide) wx h)
      clear HZR HZS HZG CV HZ hlen hna
      generalize (valF L refS).getD ByteArray.empty = R at *
      generalize (valF L refS).isSome = R1 at *
      generalize (valF L sumS).getD ByteArray.empty = S at *
      generalize (valF L sumS).isSome = S1 at *
      generalize (valF L signS).getD ByteArray.empty = G at *
      generalize (valF L signS).isSome = G1 at *
      cases hJ : justL L with
      | false =>
        rw [hJ] at HSS CJ
        have HV := hid (show SV = false from HSS.out)
        rw [HNO.out HV.out, HV.out]
        unfold wordsV
        clear HV HNO HSS HT hJ CVR CVS CVG CDS CDG
        go_enter Tryz.func54, Tryz.ntmps54
        go_wp2_with fail
        refine CK.out.mono ?_
        rintro e w1 ⟨rfl, hb1⟩
        have HB1 := hid (bb HB0.out hb1)
        have M1 := hid (blk_below M0.out hb1)
        clear hb1 CK M0 HB0 hw0
        go_wp2_with fail
        refine (CC.out _ HB1.out).mono ?_
        rintro e w2 ⟨v, rfl, ho, hb2⟩
        have HB2 := hid (bb HB1.out hb2)
        have M2 := hid (blk_below M1.out hb2)
        obtain ⟨a6, c6, rfl⟩ : ∃ a c, v = .slice a 0 c := by
          rcases ho.2 with ⟨h', _⟩ | ⟨g', cap', cur, h', _⟩
          · exact ⟨_, _, h'⟩
          · exact ⟨_, _, h'⟩
        obtain ⟨b', o', aa2, na2, ca2, e', c2, hna2, hA2⟩ := HROW.out _ HB2.out
        obtain ⟨rfl, rfl⟩ : b = b' ∧ o = o' := by cases e'; exact ⟨rfl, rfl⟩
        subst hna2
        have CJ2 := hid (CJ.out aa2 ca2 w2 hA2)
        have HBX := hid ((Below.refl w2.heap.size w2).alloc (Nat.le_refl _) (.cells #[.string ⟨#[82, 101, 102]⟩, .string ⟨#[83, 117, 109]⟩, .string ⟨#[83, 105, 103, 110]⟩] 9))
        clear hb2 CC M1 HB1 ho e' hA2 CJ
        go_wp2_with fail
        refine CJ2.out.mono ?_
        rintro e w3 ⟨rfl, hb3⟩
        have HB3 := hid (bb HB2.out (bb HBX.out hb3))
        obtain ⟨⟨y0, y1, y2⟩, f0, f1, f2⟩ := box3e (blk_below (blk_below M2.out HBX.out) hb3)
        clear CJ2 hb3 HBX M2 HB2 c2
        go_wp2_with fail
        refine bodyPost_ret (v := .tuple #[.agg #[.string ⟨#[]⟩, .string ⟨#[]⟩, .string ⟨#[]⟩], .bool false]) (by simp [results, Tryz.results54, go_sem, y0, y1, y2]) rfl ⟨rfl, ?_⟩
        iterate 3 refine Below.setCell ?_ (show w.heap.size ≤ w.heap.size from Nat.le_refl _) _
        exact HB3.out
      | true =>
        rw [hJ] at HSS CJ
        have HSV := hid (show SV = (tenB S && tenB G) from HSS.out)
        clear HSS hJ
        go_enter Tryz.func54, Tryz.ntmps54
        go_wp2_with fail
        refine CK.out.mono ?_
        rintro e w1 ⟨rfl, hb1⟩
        have HB1 := hid (bb HB0.out hb1)
        have M1 := hid (blk_below M0.out hb1)
        clear hb1 CK M0 HB0 hw0
        go_wp2_with fail
        refine (CC.out _ HB1.out).mono ?_
        rintro e w2 ⟨v, rfl, ho, hb2⟩
        have HB2 := hid (bb HB1.out hb2)
        have M2 := hid (blk_below M1.out hb2)
        obtain ⟨a6, c6, rfl⟩ : ∃ a c, v = .slice a 0 c := by
          rcases ho.2 with ⟨h', _⟩ | ⟨g', cap', cur, h', _⟩
          · exact ⟨_, _, h'⟩
          · exact ⟨_, _, h'⟩
        obtain ⟨b', o', aa2, na2, ca2, e', c2, hna2, hA2⟩ := HROW.out _ HB2.out
        obtain ⟨rfl, rfl⟩ : b = b' ∧ o = o' := by cases e'; exact ⟨rfl, rfl⟩
        subst hna2
        have CJ2 := hid (CJ.out aa2 ca2 w2 hA2)
        have HBX := hid ((Below.refl w2.heap.size w2).alloc (Nat.le_refl _) (.cells #[.string ⟨#[82, 101, 102]⟩, .string ⟨#[83, 117, 109]⟩, .string ⟨#[83, 105, 103, 110]⟩] 9))
        clear hb2 CC M1 HB1 ho e' hA2 CJ
        go_wp2_with fail
        refine CJ2.out.mono ?_
        rintro e w3 ⟨rfl, hb3⟩
        have HB3 := hid (bb HB2.out (bb HBX.out hb3))
        have M3 := hid (blk_below (blk_below M2.out HBX.out) hb3)
        clear CJ2 hb3 HBX M2 HB2 c2
        obtain ⟨b', o', aa3, na3, ca3, e', c3, hna3, hA3⟩ := HROW.out _ HB3.out
        obtain ⟨rfl, rfl⟩ : b = b' ∧ o = o' := by cases e'; exact ⟨rfl, rfl⟩
        subst hna3
        have C3 := hid (CVR.out aa3 ca3 w3 hA3)
        clear e' hA3 CVR
        go_wp2_with fail
        refine C3.out.mono ?_
        rintro e w4 ⟨rfl, hb4⟩
        have HB4 := hid (bb HB3.out hb4)
        have M4 := hid (blk_below M3.out hb4)
        clear C3 hb4 M3 HB3 c3
        obtain ⟨b', o', aa4, na4, ca4, e', c4, hna4, hA4⟩ := HROW.out _ HB4.out
        obtain ⟨rfl, rfl⟩ : b = b' ∧ o = o' := by cases e'; exact ⟨rfl, rfl⟩
        subst hna4
        have C4 := hid (CVS.out aa4 ca4 w4 hA4)
        clear e' hA4 CVS
        go_wp2_with fail
        refine C4.out.mono ?_
        rintro e w5 ⟨rfl, hb5⟩
        have HB5 := hid (bb HB4.out hb5)
        have M5 := hid (blk_below M4.out hb5)
        clear C4 hb5 M4 HB4 c4
        obtain ⟨b', o', aa5, na5, ca5, e', c5, hna5, hA5⟩ := HROW.out _ HB5.out
        obtain ⟨rfl, rfl⟩ : b = b' ∧ o = o' := by cases e'; exact ⟨rfl, rfl⟩
        subst hna5
        have C5 := hid (CVG.out aa5 ca5 w5 hA5)
        clear e' hA5 CVG
        go_wp2_with fail
        refine C5.out.mono ?_
        rintro e w6 ⟨rfl, hb6⟩
        have HB6 := hid (bb HB5.out hb6)
        obtain ⟨⟨y0, y1, y2⟩, f0, f1, f2⟩ := box3e (blk_below M5.out hb6)
        clear C5 hb6 M5 HB5 c5 HROW
        go_wp2_with fail
        refine (CDS.out _).mono ?_
        rintro e w7 ⟨rfl, rfl⟩
        clear CDS
        cases h1 : tenB S with
        | false =>
          have HV := hid (show SV = false by rw [HSV.out, h1]; rfl)
          have HE := hid (show (.tuple #[WV, .bool SV] : Value) = .tuple #[.agg #[.string ⟨#[]⟩, .string ⟨#[]⟩, .string ⟨#[]⟩], .bool false] by rw [HNO.out HV.out, HV.out]; rfl)
          clear HV HNO HT HSV h1
          go_wp2_with fail
          refine bodyPost_ret (v := .tuple #[.agg #[.string ⟨#[]⟩, .string ⟨#[]⟩, .string ⟨#[]⟩], .bool false]) (by simp [results, Tryz.results54, go_sem, y0, y1, y2]) rfl ⟨by rw [HE.out], ?_⟩
          iterate 3 refine Below.setCell ?_ (show w.heap.size ≤ w.heap.size from Nat.le_refl _) _
          exact HB6.out
        | true =>
          go_wp2_with fail
          refine (CDG.out _).mono ?_
          rintro e w8 ⟨rfl, rfl⟩
          clear CDG
          cases h2 : tenB G with
          | false =>
            have HV := hid (show SV = false by rw [HSV.out, h1, h2]; rfl)
            have HE := hid (show (.tuple #[WV, .bool SV] : Value) = .tuple #[.agg #[.string ⟨#[]⟩, .string ⟨#[]⟩, .string ⟨#[]⟩], .bool false] by rw [HNO.out HV.out, HV.out]; rfl)
            clear HV HNO HT HSV h1 h2
            go_wp2_with fail
            refine bodyPost_ret (v := .tuple #[.agg #[.string ⟨#[]⟩, .string ⟨#[]⟩, .string ⟨#[]⟩], .bool false]) (by simp [results, Tryz.results54, go_sem, y0, y1, y2]) rfl ⟨by rw [HE.out], ?_⟩
            iterate 3 refine Below.setCell ?_ (show w.heap.size ≤ w.heap.size from Nat.le_refl _) _
            exact HB6.out
          | true =>
            have HV := hid (show SV = true by rw [HSV.out, h1, h2]; rfl)
            have HE := hid (show (.tuple #[WV, .bool SV] : Value) = .tuple #[.agg #[.string R, .string S, .string G], .bool true] by rw [HT.out HV.out, HV.out]; rfl)
            clear HV HNO HT HSV h1 h2
            go_wp2_with fail
            refine bodyPost_ret (v := .tuple #[.agg #[.string R, .string S, .string G], .bool true]) (by simp [results, Tryz.results54, go_sem, y0, y1, y2]) rfl ⟨by rw [HE.out], ?_⟩
            iterate 3 refine Below.setCell ?_ (show w.heap.size ≤ w.heap.size from Nat.le_refl _) _
            exact HB6.out

end Go.Proofs.YtkejmifkjgpdjaaGreat

namespace Go.Proofs.YtkejmifkjgpdjaaGreat
open Go.RowKit
set_option linter.unusedVariables false
set_option linter.unusedSimpArgs false

/-- A sign that may stand in an identifier. -/
def inIB (c : Int) : Bool := (decide (97 ≤ c) && decide (c ≤ 122)) || (decide (48 ≤ c) && decide (c ≤ 57))

theorem inIB_all : ∀ n : Fin 256, inB idLS (UInt8.ofNat n.val) = inIB (n.val : Int) := by decide +kernel

theorem inIB_is (c : UInt8) : inB idLS c = inIB c.toNat := by
  have h := inIB_all ⟨c.toNat, c.toNat_lt⟩
  have e : UInt8.ofNat c.toNat = c := by simp
  rw [e] at h
  exact h

set_option maxHeartbeats 1000000 in
theorem cInId (c : Int) (w : World) (h0 : 0 ≤ c) (h1 : c ≤ 255) :
    Calls Tryz.prog 89 #[.int .u8 c] w fun e w' => e = .returned (.bool (inIB c)) ∧ w' = w := by
  go_enter Tryz.func89, Tryz.ntmps89
  go_wp2_with (go_at_call 118; refine (cDigit _ _ h0 h1).mono ?_; rintro e w' ⟨rfl, rfl⟩)
  all_goals go_ret
  all_goals exact ⟨ret_bool (by rw [Bool.eq_iff_iff]; simp [inIB]; try omega), rfl⟩

/-- All signs may stand in an identifier. -/
def allId (l : List UInt8) : Bool := l.all fun c => inIB c.toNat

theorem allId_is (l : List UInt8) : (l.all fun c => idLS.data.toList.any fun d => decide (d = c)) = allId l := by
  unfold allId
  congr 1
  funext c
  exact inIB_is c

theorem allId_snoc (s : ByteArray) (k : Nat) (h : k < s.size) : allId (s.data.toList.take (k + 1)) = (allId (s.data.toList.take k) && inIB s[k].toNat) := by
  unfold allId
  rw [take_snoc s k h, List.all_append]
  simp

theorem allId_no (s : ByteArray) (k : Nat) (h : k < s.size) (hc : inIB s[k].toNat = false) : allId s.data.toList = false := by
  cases hA : allId s.data.toList with
  | false => rfl
  | true =>
    have := List.all_eq_true.1 hA s[k] (List.getElem_mem _)
    rw [hc] at this
    cases this

set_option maxHeartbeats 1000000 in
theorem cAllId (s : ByteArray) (w : World) (hs : s.size ≤ 1048576) :
    Calls Tryz.prog 88 #[.string s, .func (.func 89) #[] #[]] w fun e w' => e = .returned (.bool (allId s.data.toList)) ∧ w' = w := by
  go_enter Tryz.func88, Tryz.ntmps88
  go_wp2
  go_loop [8] (fun i => ∃ k : Nat, k ≤ s.size ∧ i = .int .i64 k ∧ Hid (allId (s.data.toList.take k) = true)) (fun i => s.size - (intOf i).toNat)
  case atStart => exact ⟨0, Nat.zero_le _, rfl, rfl⟩
  case round =>
    obtain ⟨k, hk, rfl, HP⟩ := hrel
    by_cases hlt : k < s.size
    · have hb : (s[k].toNat : Int) ≤ 255 := by have := s[k].toNat_lt; omega
      cases hc : inIB s[k].toNat
      · go_wp2_with (go_at_call 89; refine (cInId _ _ (by omega) hb).mono ?_; rintro e w' ⟨rfl, rfl⟩)
        go_ret
        exact ⟨ret_bool (allId_no s k hlt hc).symm, rfl⟩
      · go_wp2_with (go_at_call 89; refine (cInId _ _ (by omega) hb).mono ?_; rintro e w' ⟨rfl, rfl⟩)
        go_round
        case rel => exact ⟨k + 1, by omega, by go_num, by show allId _ = true; rw [allId_snoc s k hlt, HP.out, hc]; rfl⟩
        case measure => simp [intOf]; omega
    · go_wp2
      go_ret
      exact ⟨ret_bool (by rw [← take_full s k hlt]; exact HP.out.symm), rfl⟩

theorem idOk_is (s : ByteArray) : idOk s = (decide (1 ≤ s.size) && (decide (s.size ≤ 12) && allId s.data.toList)) := by
  unfold idOk ofB
  rw [allId_is, Bool.and_comm (allId s.data.toList)]
  have e : (!decide (s.size = 0)) = decide (1 ≤ s.size) := by
    by_cases h : s.size = 0
    · rw [decide_eq_true h, decide_eq_false (show ¬ 1 ≤ s.size by omega)]; rfl
    · rw [decide_eq_false h, decide_eq_true (show 1 ≤ s.size by omega)]; rfl
  rw [e]

set_option maxHeartbeats 2000000 in
theorem cIdOk (s : ByteArray) (w : World) (hs : s.size ≤ 1048576) :
    Calls Tryz.prog 52 #[.string s] w fun e w' => e = .returned (.bool (idOk s)) ∧ w' = w := by
  have C := hid (fun wx => cAllId s wx hs)
  rw [idOk_is]
  generalize allId s.data.toList = M at *
  by_cases h1 : 1 ≤ s.size
  · rw [decide_eq_true h1]
    have h1' : (1 : Int) ≤ (s.size : Int) := by omega
    by_cases h12 : s.size ≤ 12
    · rw [decide_eq_true h12]
      have h12' : (s.size : Int) ≤ 12 := by omega
      go_enter Tryz.func52, Tryz.ntmps52
      go_wp2_with fail
      refine (C.out _).mono ?_
      rintro e w1 ⟨rfl, rfl⟩
      go_wp2_with fail
      go_ret
      exact ⟨by simp, rfl⟩
    · rw [decide_eq_false h12]
      have h12' : ¬ (s.size : Int) ≤ 12 := by omega
      go_enter Tryz.func52, Tryz.ntmps52
      go_wp2_with fail
      go_ret
      exact ⟨by simp, rfl⟩
  · rw [decide_eq_false h1]
    have h1' : ¬ (1 : Int) ≤ (s.size : Int) := by omega
    go_enter Tryz.func52, Tryz.ntmps52
    go_wp2_with fail
    go_ret
    exact ⟨by simp, rfl⟩

theorem treeB_p {ts : List Tk} (h : treeB ts = true) : TreeP ts := by
  by_cases q : TreeP ts
  · exact q
  · rw [treeB_f q] at h; cases h

/-- In a tree an attr of that name is the one that is found. -/
theorem tree_id {ts : List Tk} (hT : TreeP ts) {k : Nat} (hk : k < ts.length) {i : Nat} (hi : i < ts[k].attrs.length) (hn : ts[k].attrs[i].name = idS) : idAt ts k = some ts[k].attrs[i].value := by
  rw [idAt_at hk]
  refine valF_at hi (fun x hx => ?_) hn
  obtain ⟨j, hj, e⟩ := List.mem_take_iff_getElem.1 hx
  obtain ⟨⟨_, hb⟩, -⟩ := hT.2.2.2.2 k hk
  by_cases h0 : ts[k].name.size = 0
  · rw [nodeB_tx h0, Bool.and_eq_true] at hb
    have := of_decide_eq_true hb.1
    omega
  · rw [nodeB_el h0, Bool.and_eq_true, Bool.and_eq_true] at hb
    have ho : AttrsOk ts[k].attrs := by
      by_cases q : AttrsOk ts[k].attrs
      · exact q
      · rw [attrsB_f q] at hb; cases hb.2.1
    subst e
    have := ho.2.2 i j hi (by omega) hi
    rw [hn] at this
    exact this

/-- What is found is an attr of that name. -/
theorem id_tree {ts : List Tk} {k : Nat} {v : ByteArray} (hk : k < ts.length) (h : idAt ts k = some v) : ∃ (i : Nat) (hi : i < ts[k].attrs.length), ts[k].attrs[i].name = idS ∧ ts[k].attrs[i].value = v := by
  rw [idAt_at hk] at h
  unfold valF at h
  rw [Option.map_eq_some_iff] at h
  obtain ⟨x, hx, e⟩ := h
  obtain ⟨i, hi, ei⟩ := List.getElem_of_mem (List.mem_of_find?_eq_some hx)
  have h2 := List.find?_some hx
  subst ei
  exact ⟨i, hi, by simpa using h2, e⟩

end Go.Proofs.YtkejmifkjgpdjaaGreat

namespace Go.Proofs.YtkejmifkjgpdjaaGreat
open Go.RowKit
set_option linter.unusedVariables false
set_option linter.unusedSimpArgs false

theorem sp_inj : ∀ (a b c d : List UInt8), (∀ x ∈ a, ¬ x = 32) → (∀ x ∈ c, ¬ x = 32) → a ++ 32 :: b = c ++ 32 :: d → a = c ∧ b = d
  | [], b, [], d, _, _, h => ⟨rfl, by simpa using h⟩
  | [], b, y :: c, d, _, hc, h => by
    simp only [List.nil_append, List.cons_append, List.cons.injEq] at h
    exact absurd h.1.symm (hc y (List.mem_cons_self ..))
  | x :: a, b, [], d, ha, _, h => by
    simp only [List.nil_append, List.cons_append, List.cons.injEq] at h
    exact absurd h.1 (ha x (List.mem_cons_self ..))
  | x :: a, b, y :: c, d, ha, hc, h => by
    simp only [List.cons_append, List.cons.injEq] at h
    obtain ⟨e1, e2⟩ := sp_inj a b c d (fun z hz => ha z (List.mem_cons_of_mem _ hz)) (fun z hz => hc z (List.mem_cons_of_mem _ hz)) h.2
    exact ⟨by rw [h.1, e1], e2⟩

/-- No blank stands in it. -/
def NoSp (s : ByteArray) : Prop := ∀ x ∈ s.data.toList, ¬ x = 32

theorem key_inj {a b c d : ByteArray} (ha : NoSp a) (hc : NoSp c) (h : (a ++ ⟨#[32]⟩) ++ b = (c ++ ⟨#[32]⟩) ++ d) : a = c ∧ b = d := by
  have h2 : a.data.toList ++ 32 :: b.data.toList = c.data.toList ++ 32 :: d.data.toList := by
    have h3 := congrArg (fun s : ByteArray => s.data.toList) h
    simpa using h3
  obtain ⟨e1, e2⟩ := sp_inj _ _ _ _ ha hc h2
  refine ⟨?_, ?_⟩
  · apply ByteArray.ext
    exact Array.toList_inj.1 e1
  · apply ByteArray.ext
    exact Array.toList_inj.1 e2

theorem of_nosp {s : ByteArray} (h : ofB sgnS 20 s = true) : NoSp s := by
  intro x hx e
  subst e
  unfold ofB at h
  rw [Bool.and_eq_true] at h
  have h2 := List.all_eq_true.1 h.1 _ hx
  revert h2
  decide

theorem look_nosp {l : List At} (hl : l.all rightB = true) (p : ByteArray) : NoSp ((lookL l p).getD ⟨#[]⟩) := by
  unfold lookL
  cases hf : l.find? (declB p) with
  | none =>
    simp only
    split
    · intro x hx; cases hx
    · intro x hx; cases hx
  | some y =>
    simp only [Option.getD_some]
    have h1 := List.all_eq_true.1 hl y (List.mem_of_find?_eq_some hf)
    have h2 := List.find?_some hf
    unfold declB at h2
    have h3 : declF y = some p := by simpa using h2
    unfold rightB at h1
    rw [h3] at h1
    simp only [Bool.and_eq_true] at h1
    exact of_nosp h1.1

noncomputable def pairN (ts : List Tk) (i : Nat) (x : At) : ByteArray × ByteArray := ((meanF ts i (preS x.name)).getD ⟨#[]⟩, locS x.name)

noncomputable def pairsN (ts : List Tk) (i : Nat) (l : List At) : List (ByteArray × ByteArray) := (l.filter cntB).map (pairN ts i)

theorem meanF_look {ts : List Tk} {i : Nat} (h : (outAts ts i).all rightB = true) (p : ByteArray) : meanF ts i p = lookL (outAts ts i) p := by
  rw [meanF_out]
  exact meanL_look p h

theorem pair_mem {ts : List Tk} {i : Nat} (h : (outAts ts i).all rightB = true) (l : List At) (x : At) : keyN ts i x ∈ keysN ts i l ↔ pairN ts i x ∈ pairsN ts i l := by
  unfold keysN pairsN
  rw [List.mem_map, List.mem_map]
  refine exists_congr fun y => and_congr_right fun _ => ?_
  unfold keyN pairN
  have n1 : NoSp ((meanF ts i (preS y.name)).getD ⟨#[]⟩) := by rw [meanF_look h]; exact look_nosp h _
  have n2 : NoSp ((meanF ts i (preS x.name)).getD ⟨#[]⟩) := by rw [meanF_look h]; exact look_nosp h _
  constructor
  · intro e
    obtain ⟨e1, e2⟩ := key_inj n1 n2 e
    rw [e1, e2]
  · intro e
    have e1 := congrArg Prod.fst e
    have e2 := congrArg Prod.snd e
    simp only at e1 e2
    rw [e1, e2]

theorem pairsN_skip {ts : List Tk} {i : Nat} {l : List At} {x : At} (hc : cntB x = false) : pairsN ts i (l ++ [x]) = pairsN ts i l := by
  unfold pairsN
  rw [List.filter_append]
  simp [hc]

theorem pairsN_more {ts : List Tk} {i : Nat} {l : List At} {x : At} (hc : cntB x = true) : pairsN ts i (l ++ [x]) = pairsN ts i l ++ [pairN ts i x] := by
  unfold pairsN
  rw [List.filter_append]
  simp [hc]

theorem cntB_is (x : At) : cntB x = (!decide ((preS x.name).size = 0) && !decide (preS x.name = nsS)) := by
  have h0 : preS nsS = ⟨#[]⟩ := by decide +kernel
  unfold cntB declF
  by_cases h1 : x.name = nsS
  · rw [if_pos h1, h1, h0]
    rfl
  · rw [if_neg h1]
    by_cases h2 : preS x.name = nsS
    · rw [if_pos h2, decide_eq_true h2]
      simp
    · rw [if_neg h2, decide_eq_false h2]
      simp

/-- Pairs as cells. -/
def prC (ps : List (ByteArray × ByteArray)) : List Value := ps.flatMap fun q => [.string q.1, .string q.2]

theorem prC_snoc (ps : List (ByteArray × ByteArray)) (q : ByteArray × ByteArray) : prC (ps ++ [q]) = prC ps ++ [.string q.1, .string q.2] := by
  unfold prC
  rw [List.flatMap_append]
  simp

theorem prC_get : ∀ (ps : List (ByteArray × ByteArray)) (j : Nat) (h : j < ps.length), (prC ps)[j * 2]? = some (.string ps[j].1) ∧ (prC ps)[j * 2 + 1]? = some (.string ps[j].2)
  | [], j, h => by simp at h
  | x :: ps, 0, h => ⟨rfl, rfl⟩
  | x :: ps, j + 1, h => by
    have := prC_get ps j (by simpa using h)
    rw [show (j + 1) * 2 = j * 2 + 1 + 1 by omega]
    exact this

/-- A row of pairs can be read. -/
def PrRow (w : World) (a : Option Addr) (ps : List (ByteArray × ByteArray)) : Prop := ∀ j (h : j < ps.length), ∃ g, a = some ⟨g, 0, none⟩ ∧ g < w.heap.size ∧ w.cell? ⟨g, j * 2, none⟩ = some (.string ps[j].1) ∧ w.cell? ⟨g, j * 2 + 1, none⟩ = some (.string ps[j].2)

theorem PrRow.below {w w' : World} {a : Option Addr} {ps : List (ByteArray × ByteArray)} (h : PrRow w a ps) (hb : Below w.heap.size w w') : PrRow w' a ps := by
  intro j hj
  obtain ⟨g, e, hg, c1, c2⟩ := h j hj
  exact ⟨g, e, Nat.lt_of_lt_of_le hg hb.size, (hb.cell (p := ⟨g, j * 2, none⟩) hg).trans c1, (hb.cell (p := ⟨g, j * 2 + 1, none⟩) hg).trans c2⟩

theorem PrRow.of {w : World} {B : Nat} {a : Option Addr} {c : Nat} {ps : List (ByteArray × ByteArray)} (h : w.ownsRow B 145 2 (.slice a ps.length c) ps.length (prC ps)) : PrRow w a ps := by
  intro j hj
  rcases h.2 with ⟨_, h0⟩ | ⟨g, cap, cur, e, hg, hh, h3⟩
  · omega
  · cases e
    obtain ⟨p1, p2⟩ := prC_get ps j hj
    exact ⟨g, rfl, lt_of_heap hh, by rw [World.ownsRow.cellAt h (j * 2) (by omega)]; exact p1, by rw [World.ownsRow.cellAt h (j * 2 + 1) (by omega)]; exact p2⟩

theorem prs_more {w1 : World} {B : Nat} {v : Value} {ps : List (ByteArray × ByteArray)} {q : ByteArray × ByteArray} (h : w1.ownsRow B 145 2 v (ps.length + 1) (prC ps ++ [.string q.1, .string q.2])) : ∃ a c, v = .slice a (ps ++ [q]).length c ∧ w1.ownsRow B 145 2 (.slice a (ps ++ [q]).length c) (ps ++ [q]).length (prC (ps ++ [q])) := by
  have e : (ps ++ [q]).length = ps.length + 1 := by rw [List.length_append]; rfl
  rw [e, prC_snoc]
  rcases h.2 with ⟨rfl, h0⟩ | ⟨g, cap, cur, rfl, h3⟩
  · omega
  · exact ⟨_, _, rfl, h⟩

/-- One of them is it. -/
noncomputable def hasP (ps : List (ByteArray × ByteArray)) (q : ByteArray × ByteArray) : Bool := open Classical in decide (q ∈ ps)

theorem hasP_t {ps : List (ByteArray × ByteArray)} {q : ByteArray × ByteArray} (h : q ∈ ps) : hasP ps q = true := by unfold hasP; simp [h]

theorem hasP_f {ps : List (ByteArray × ByteArray)} {q : ByteArray × ByteArray} (h : ¬ q ∈ ps) : hasP ps q = false := by unfold hasP; simp [h]

set_option maxRecDepth 4000 in
set_option maxHeartbeats 2000000 in
theorem cIndexP (a : Option Addr) (cap : Nat) (ps : List (ByteArray × ByteArray)) (m l : ByteArray) (w : World) (hR : PrRow w a ps) (hn : ps.length ≤ 1048576) :
    Calls Tryz.prog 138 #[.slice a ps.length cap, .agg #[.string m, .string l]] w fun e w' => ∃ r : Int, e = .returned (.int .i64 r) ∧ decide (0 ≤ r) = hasP ps (m, l) ∧ Below w.heap.size w w' := by
  obtain ⟨V, hV⟩ : ∃ V, hasP ps (m, l) = V := ⟨_, rfl⟩
  have HF : Hid (¬ (m, l) ∈ ps → V = false) := fun h => by rw [← hV]; exact hasP_f h
  have HT : Hid ((m, l) ∈ ps → V = true) := fun h => by rw [← hV]; exact hasP_t h
  rw [hV]
  clear hV
  have HR := hid hR
  have HB0 := hid ((Below.refl w.heap.size w).alloc (Nat.le_refl _) (.cells #[.string m, .string l] 145))
  have HX := hid (box_two w (.string m) (.string l) 145)
  clear hR
  obtain ⟨n, hnn⟩ : ∃ n, ps.length = n := ⟨_, rfl⟩
  have HN := hid hnn
  rw [hnn] at hn ⊢
  clear hnn
  go_enter Tryz.func138, Tryz.ntmps138
  go_wp2_with fail
  go_loopw [8] (fun k wr => ∃ i : Nat, k = .int .i64 (i : Int) ∧ i ≤ n ∧ Hid (¬ (m, l) ∈ ps.take i) ∧ Hid (Below (w.heap.size + 1) (w.alloc (.cells #[.string m, .string l] 145)) wr)) (fun k _ => n - (intOf k).toNat)
  case atStart => exact ⟨0, rfl, Nat.zero_le _, by show ¬ _; simp, Below.refl _ _⟩
  case round =>
    obtain ⟨i, rfl, hi, HO, HB⟩ := hrel
    have k1 := (HB.out.cell (p := ⟨w.heap.size, 0, none⟩) (Nat.lt_succ_self _)).trans HX.out.1
    have k2 := (HB.out.cell (p := ⟨w.heap.size, 1, none⟩) (Nat.lt_succ_self _)).trans HX.out.2.1
    have HBw := hid (HB0.out.trans (HB.out.mono (Nat.le_succ _)))
    by_cases hlt : i < n
    · have his : i < ps.length := by rw [HN.out]; exact hlt
      obtain ⟨g, rfl, hg, c1, c2⟩ := (HR.out.below HBw.out) i his
      have hin : (i : Int) < (n : Int) := by omega
      have hin0 : (0 : Int) ≤ (i : Int) := by omega
      have q1 := str_beq m ps[i].1
      have q2 := str_beq l ps[i].2
      have HTK := hid (take_snocN his)
      have HYES := hid (show m = ps[i].1 → l = ps[i].2 → V = true from fun e1 e2 => HT.out (by rw [e1, e2]; exact List.getElem_mem his))
      have HNO := hid (show ¬ (m = ps[i].1 ∧ l = ps[i].2) → ¬ (m, l) ∈ ps.take (i + 1) from fun h hm => by
        rw [HTK.out] at hm
        rcases List.mem_append.1 hm with h' | h'
        · exact HO.out h'
        · rw [List.mem_singleton] at h'
          exact h ⟨congrArg Prod.fst h', congrArg Prod.snd h'⟩)
      generalize ps[i].1 = m' at *
      generalize ps[i].2 = l' at *
      by_cases e1 : m = m'
      · rw [decide_eq_true e1] at q1
        by_cases e2 : l = l'
        · rw [decide_eq_true e2] at q2
          have HV := hid (HYES.out e1 e2)
          clear HNO HYES e1 e2
          go_wp2_with fail
          go_quiet (fail)
          go_wp2_with fail
          go_ret
          exact ⟨_, rfl, by rw [HV.out]; exact decide_eq_true hin0, below_drewN HBw.out _⟩
        · rw [decide_eq_false e2] at q2
          have HN2 := hid (HNO.out (fun h => e2 h.2))
          clear HNO HYES e1 e2
          go_wp2_with fail
          go_quiet (fail)
          go_wp2_with fail
          go_roundw
          case rel => exact ⟨i + 1, by go_num, by omega, HN2.out, below_drewN HB.out _⟩
          case measure => simp [intOf]; omega
      · rw [decide_eq_false e1] at q1
        have HN2 := hid (HNO.out (fun h => e1 h.1))
        clear HNO HYES e1 q2
        go_wp2_with fail
        go_quiet (fail)
        go_wp2_with fail
        go_roundw
        case rel => exact ⟨i + 1, by go_num, by omega, HN2.out, below_drewN HB.out _⟩
        case measure => simp [intOf]; omega
    · have hie : i = n := by omega
      subst hie
      have HV := hid (HF.out (by
        have h := HO.out
        rw [List.take_of_length_le (by rw [HN.out]; exact Nat.le_refl _)] at h
        exact h))
      go_wp2_with fail
      go_ret
      exact ⟨_, rfl, by rw [HV.out]; rfl, HBw.out⟩

set_option maxHeartbeats 2000000 in
theorem cContainsP (a : Option Addr) (cap : Nat) (ps : List (ByteArray × ByteArray)) (m l : ByteArray) (w : World) (hR : PrRow w a ps) (hn : ps.length ≤ 1048576) :
    Calls Tryz.prog 114 #[.slice a ps.length cap, .agg #[.string m, .string l]] w fun e w' => e = .returned (.bool (hasP ps (m, l))) ∧ Below w.heap.size w w' := by
  have HB0 := hid ((Below.refl w.heap.size w).alloc (Nat.le_refl _) (.cells #[.string m, .string l] 145))
  have C := hid (cIndexP a cap ps m l (w.alloc (.cells #[.string m, .string l] 145)) (hR.below HB0.out) hn)
  clear hR
  generalize hasP ps (m, l) = V at *
  generalize ps.length = n at *
  go_enter Tryz.func114, Tryz.ntmps114
  go_wp2_with fail
  refine C.out.mono ?_
  rintro e w1 ⟨r, rfl, hr, hb1⟩
  have HB1 := hid (bb HB0.out hb1)
  clear hb1 C
  go_wp2_with fail
  go_ret
  exact ⟨rfl, HB1.out⟩

end Go.Proofs.YtkejmifkjgpdjaaGreat
