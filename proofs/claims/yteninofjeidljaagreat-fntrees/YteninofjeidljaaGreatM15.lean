/- The reader of a letter in the program: opening from label 0 on. The reader of a letter in the program: opening from label 1 on. The reader of a letter in the program: opening from label 2 on. The reader of a letter in the program: opening from label 3 on. -/
import Derived.Test.YteninofjeidljaaGreatM13
namespace Go.Proofs.YteninofjeidljaaGreat

open Go.RowKit

set_option linter.unusedVariables false

set_option linter.unusedSimpArgs false

set_option maxRecDepth 8000 in
set_option maxHeartbeats 16000000 in
theorem opWalk0 (B g : Nat) (s : ByteArray) (p : Nat) (tx : ByteArray) (v : Value) (es : List Tn.E) (w : World) (HT : Hid (RdT w B g s (p + 1) p tx v es)) (hgl : g < w.heap.size) (hp : p < s.size) (hs : s.size ≤ 4000) (hn : es.length ≤ 900) (h0 : ∀ i (hi : i < s.size), ¬ s[i].toNat = 0) :
    ∀ c, Tryz.f144.body.bind scopeIn = some c → ∀ r, findLabel c 0 = some r → ∀ a w1, OJ0 g s p tx v w a w1 → r.wp Tryz.prog (jumpsTo (fun l' a' w' => OJ g s p tx v w l' a' w' ∧ OMU s g l' a' w' < OMU s g 0 a w1) (bodyPost Tryz.prog Tryz.f144 (OpPost B g s p tx es w))) a w1 := by
  refine at_scope (P := fun c => ∀ r, findLabel c 0 = some r → _) rfl ?_
  refine at_scope rfl ?_
  rintro a' w1 ⟨q, u5, u6, u7, u8, u9, u10, u11, u12, u13, u14, u15, u16, u17, u18, u19, u20, u21, u22, u23, u24, u25, u26, u27, u28, u29, u30, u31, u32, u33, u34, u35, u36, u37, u38, u39, u40, u41, u42, u43, u44, u45, u46, u47, u48, u49, u50, u51, u52, u53, u54, u55, u56, u57, u58, u59, u60, u61, u62, u63, u64, u65, u66, u67, u68, u69, u70, u71, u72, u73, rfl, ST⟩
  have CN := hid (cNext g s q p tx v w1 ST.out.rdr (by have := ST.out.le; omega) (by omega))
  go_wp2_with fail
  refine CN.out.mono ?_
  rintro e w2 ⟨rfl, hr2, hk2⟩
  have HR2 := hid hr2
  have HK2 := hid hk2
  clear hr2 hk2 CN
  by_cases hq : q < s.size
  · have hz := h0 q hq
    have HSG := hid (show sgnAt s q = s[q].toNat by unfold sgnAt; rw [dif_pos hq])
    have hne0 : (((s[q].toNat : Nat) : Int) == 0) = false := by simp; omega
    rw [HSG.out]
    by_cases hT : nameT s[q].toNat = true
    · have hd : (((s[q].toNat : Nat) : Int) == 32) = true ∨ ((((s[q].toNat : Nat) : Int) == 32) = false ∧ (((s[q].toNat : Nat) : Int) == 47) = true) ∨ ((((s[q].toNat : Nat) : Int) == 32) = false ∧ (((s[q].toNat : Nat) : Int) == 47) = false ∧ (((s[q].toNat : Nat) : Int) == 62) = true) := by
        unfold nameT at hT
        simp at hT ⊢
        omega
      have HOP := hid (fun w3 (hb : Below w2.heap.size w2 w3) => And.intro (ST.out.part hgl hq hT HR2.out HK2.out hb) HSG.out)
      have BX2 := hid (fun w3 (hb : Below w2.heap.size w2 w3) => (((ST.out.box.keep HK2.out hgl).below hb).cellsT))
      have HMUA := hid (fun w4 (hr : Rdr w4 g s (q + 1) p tx v) => show 5 * (s.size + 5 - rdAt w4 g) + (3 - 1) < 5 * (s.size + 5 - rdAt w1 g) + (3 - 0) by rw [rdAt_is hr, rdAt_is ST.out.rdr]; omega)
      have CP := hid (cPiece g s (q + 1) p tx v w2 HR2.out (by have := ST.out.ge; omega) (by omega) (by omega))
      have HEX := hid (show pieceS s p (q + 1) = s.extract p q from rfl)
      rw [HEX.out] at CP
      generalize s[q].toNat = ch at *
      clear ST HSG HEX hT
      rcases hd with h32 | ⟨h32, h47⟩ | ⟨h32, h47, h62⟩
      all_goals (
        go_wp2_with fail
        refine CP.out.mono ?_
        rintro e w3 ⟨rfl, hb3⟩
        have HO := hid (HOP.out w3 hb3)
        obtain ⟨t0, t1, t2, t3, tf⟩ := BX2.out w3 hb3
        have tf1 := tf 1
        have HMU := hid (HMUA.out _ HO.out.1.rdr)
        clear hb3 CP HOP BX2 HMUA tf
        go_wp2_with fail
        go_step3
        exact ⟨⟨q, ch, s.size + 1, [], none, 0, p, ⟨#[]⟩, ⟨#[]⟩, _, _, _, _, _, _, _, _, _, _, _, _, _, _, _, _, _, _, _, _, _, _, _, _, _, _, _, _, _, _, _, _, _, _, _, _, _, _, _, _, _, _, _, _, _, _, _, _, _, _, _, _, _, _, _, _, _, _, _, _, _, _, _, _, _, _, _, _, rfl, HO.out⟩, HMU.out⟩)
    · have hd : nameT s[q].toNat = false := by simpa using hT
      have h32 : (((s[q].toNat : Nat) : Int) == 32) = false := by (unfold nameT at hd; simp at hd ⊢; omega)
      have h47 : (((s[q].toNat : Nat) : Int) == 47) = false := by (unfold nameT at hd; simp at hd ⊢; omega)
      have h62 : (((s[q].toNat : Nat) : Int) == 62) = false := by (unfold nameT at hd; simp at hd ⊢; omega)
      have STN := hid (ST.out.more hgl hq hd HR2.out HK2.out)
      have HMU := hid (show 5 * (s.size + 5 - rdAt w2 g) + (3 - 0) < 5 * (s.size + 5 - rdAt w1 g) + (3 - 0) by rw [rdAt_is HR2.out, rdAt_is ST.out.rdr]; omega)
      clear hT hd
      generalize s[q].toNat = ch at *
      clear ST
      go_wp2_with fail
      go_step3
      exact ⟨⟨q + 1, _, _, _, _, _, _, _, _, _, _, _, _, _, _, _, _, _, _, _, _, _, _, _, _, _, _, _, _, _, _, _, _, _, _, _, _, _, _, _, _, _, _, _, _, _, _, _, _, _, _, _, _, _, _, _, _, _, _, _, _, _, _, _, _, _, _, _, _, _, rfl, STN.out⟩, HMU.out⟩
  · have HE := hid (ST.out.noName hq)
    have HBF := hid ((ST.out.kp.trans HK2.out).below (Nat.le_of_lt hgl) (fun k e => by rw [e]; exact Nat.le_refl _))
    have HSG := hid (show sgnAt s q = 0 by unfold sgnAt; rw [dif_neg hq])
    rw [HSG.out]
    clear ST
    go_wp2_with fail
    try simp only [Exit.jump]
    go_ret
    exact OpPost.noName HE.out HBF.out rfl

end Go.Proofs.YteninofjeidljaaGreat

namespace Go.Proofs.YteninofjeidljaaGreat

open Go.RowKit

set_option linter.unusedVariables false

set_option linter.unusedSimpArgs false

set_option maxRecDepth 8000 in
set_option maxHeartbeats 16000000 in
theorem opWalk1 (B g : Nat) (s : ByteArray) (p : Nat) (tx : ByteArray) (v : Value) (es : List Tn.E) (w : World) (HT : Hid (RdT w B g s (p + 1) p tx v es)) (hgl : g < w.heap.size) (hp : p < s.size) (hs : s.size ≤ 4000) (hn : es.length ≤ 900) (h0 : ∀ i (hi : i < s.size), ¬ s[i].toNat = 0) :
    ∀ c, Tryz.f144.body.bind scopeIn = some c → ∀ r, findLabel c 1 = some r → ∀ a w1, OJ1 g s p tx v w a w1 → r.wp Tryz.prog (jumpsTo (fun l' a' w' => OJ g s p tx v w l' a' w' ∧ OMU s g l' a' w' < OMU s g 1 a w1) (bodyPost Tryz.prog Tryz.f144 (OpPost B g s p tx es w))) a w1 := by
  refine at_scope (P := fun c => ∀ r, findLabel c 1 = some r → _) rfl ?_
  refine at_scope rfl ?_
  rintro a' w1 ⟨e, ch, f, acc, ta, tc, m, x, y, u5, u7, u8, u9, u10, u11, u12, u13, u14, u15, u16, u17, u18, u19, u20, u21, u22, u23, u24, u25, u26, u27, u28, u29, u30, u31, u32, u33, u34, u35, u36, u37, u38, u39, u40, u41, u42, u43, u44, u45, u46, u47, u48, u49, u50, u51, u52, u53, u54, u55, u56, u57, u58, u59, u60, u61, u62, u63, u64, u65, u66, u67, u68, u69, u70, u71, u72, u73, rfl, ST⟩
  have HLE := hid ST.out.1.le
  by_cases h32 : ch = 32
  · have e32 : (((ch : Nat) : Int) == 32) = true := by simp; omega
    have CM := hid (cMark g s (e + 1) m tx v w1 ST.out.1.rdr)
    have HAS := hid (show AtSt s e (e + 1) from ⟨Nat.le_refl _, by obtain ⟨he, _⟩ := sgn_lt (ST.out.2.trans h32) (by decide); omega, fun i hi h1 h2 => by omega, ST.out.2.trans h32⟩)
    go_wp2_with fail
    refine CM.out.mono ?_
    rintro e' w2 ⟨rfl, hr2, hk2⟩
    have HJ := hid (And.intro (ST.out.1.keep hgl hr2 hk2) HAS.out)
    have HMU := hid (show 5 * (s.size + 5 - rdAt w2 g) + (3 - 2) < 5 * (s.size + 5 - rdAt w1 g) + (3 - 1) by rw [rdAt_is hr2, rdAt_is ST.out.1.rdr]; omega)
    clear hr2 hk2 CM ST HAS
    go_wp2_with fail
    go_step3
    exact ⟨⟨e, f, e + 1, acc, ta, tc, x, y, _, _, _, _, _, _, _, _, _, _, _, _, _, _, _, _, _, _, _, _, _, _, _, _, _, _, _, _, _, _, _, _, _, _, _, _, _, _, _, _, _, _, _, _, _, _, _, _, _, _, _, _, _, _, _, _, _, _, _, _, _, _, _, _, _, _, _, _, _, rfl, HJ.out⟩, HMU.out⟩
  · have e32 : (((ch : Nat) : Int) == 32) = false := by simp; omega
    by_cases h47 : ch = 47
    · have e47 : (((ch : Nat) : Int) == 47) = true := by simp; omega
      have CN := hid (cNext g s (e + 1) m tx v w1 ST.out.1.rdr (by have := HLE.out; omega) (by omega))
      by_cases h62 : sgnAt s (e + 1) = 62
      · rw [h62] at CN
        have H62 := hid h62
        clear h62
        go_wp2_with fail
        refine CN.out.mono ?_
        rintro e' w2 ⟨rfl, hr2, hk2⟩
        have HO2 := hid (ST.out.1.keep hgl hr2 hk2)
        clear hr2 hk2 CN
        obtain ⟨e1, h1, b2, h3⟩ := HO2.out.stops (by rw [ST.out.2]; exact h32)
        have HE := hid (And.intro h1 h3)
        have CAD := hid (cAdd B g s (e + 2) m tx v es ⟨⟨1, s.extract p e1, acc, ⟨#[]⟩⟩, ta, tc⟩ w2 (HT.out.next HO2.out.rdr HO2.out.kp) (HO2.out.fit HT.out _ rfl) (HO2.out.tkSz hs e1) (by omega))
        have CAD := hid (show Calls Tryz.prog 167 #[.pointer (some ⟨g, 0, none⟩), .agg #[.int .i64 1, .string (s.extract p e1), .slice ta acc.length tc, .string ⟨#[]⟩]] w2 fun x w' => x = .returned (.bool (decide (es.length + 1 ≤ 120) && tokB ⟨1, s.extract p e1, acc, ⟨#[]⟩⟩)) ∧ (∃ v', RdT w' B g s (e + 2) m tx v' (es ++ [⟨⟨1, s.extract p e1, acc, ⟨#[]⟩⟩, ta, tc⟩])) ∧ Below g w2 w' ∧ KeepB (fun k => k = g ∨ v.ownBlock = some k) w2 w' from CAD.out)
        have HSE := hid ST.out.2
        have HBL := hid (HO2.out.kp.below (Nat.le_of_lt hgl) (fun k e => by rw [e]; exact Nat.le_refl _))

        obtain ⟨t0, t1, t2, t3, tf⟩ := b2.cellsT
        have BXT := hid b2.tag
        have H47 := hid (HSE.out.trans h47)
        have HVB := hid (show ¬ v.ownBlock = some w.heap.size from fun x => by have := (HT.out.row.own.lt _ x).2; omega)
        have hpz : (s.extract p e1).size ≤ 1048576 := by rw [ByteArray.size_extract]; omega
        have CX := hid (fun wx => c_strings_Clone (s.extract p e1) wx hpz)
        have HPB := hid (fun w' => OpPost.wholeBad (B := B) (g := g) (tx := tx) (es := es) (w := w) (w' := w') (x := .returned (.bool false)) e1 e acc HE.out.1 HE.out.2 H47.out H62.out)
        have HPO := hid (fun TB w' (ht : (decide (es.length + 1 ≤ 120) && tokB ⟨1, s.extract p e1, acc, ⟨#[]⟩⟩) = true) (hx : (decide (es.length + 2 ≤ 120) && tokB ⟨2, s.extract p e1, [], ⟨#[]⟩⟩) = TB) (hb : Below g w w') (hr : ∃ v', RdT w' B g s (e + 2) m tx v' (es ++ [⟨⟨1, s.extract p e1, acc, ⟨#[]⟩⟩, ta, tc⟩] ++ [⟨⟨2, s.extract p e1, [], ⟨#[]⟩⟩, none, 0⟩])) => OpPost.whole (B := B) (g := g) (es := es) (w := w) (w' := w') (x := .returned (.bool TB)) e1 e acc HE.out.1 HE.out.2 H47.out H62.out ht (by rw [hx]) hb (let ⟨v', h⟩ := hr; ⟨m, v', ta, tc, h⟩))
        obtain ⟨E, hE⟩ : ∃ E : Tn.E, (⟨⟨1, s.extract p e1, acc, ⟨#[]⟩⟩, ta, tc⟩ : Tn.E) = E := ⟨_, rfl⟩
        rw [hE] at CAD HPO
        obtain ⟨TB, hTB⟩ : ∃ TB, (decide (es.length + 1 ≤ 120) && tokB ⟨1, s.extract p e1, acc, ⟨#[]⟩⟩) = TB := ⟨_, rfl⟩
        rw [hTB] at CAD HPB HPO
        obtain ⟨TC, hTC⟩ : ∃ TC, (decide (es.length + 2 ≤ 120) && tokB ⟨2, s.extract p e1, [], ⟨#[]⟩⟩) = TC := ⟨_, rfl⟩
        have HTC := hid hTC
        clear hTB hTC ST HE b2 h1 h3 tf hE H47 HSE
        generalize s.extract p e1 = X at *
        generalize acc.length = nA at *
        cases TB with
        | false =>
          go_wp2_with fail
          refine CAD.out.mono ?_
          rintro e' w4 ⟨rfl, hx4, hb4, -⟩
          have HF := hid (HPB.out w4 (by trivial) (HBL.out.trans hb4) (by trivial))
          clear hx4 hb4 CAD HPB HPO CX
          go_wp2_with fail
          try simp only [Exit.jump]
          go_ret
          exact HF.out
        | true =>
          go_wp2_with fail
          refine CAD.out.mono ?_
          rintro e' w4 ⟨rfl, ⟨v4, hr4⟩, hb4, hk4⟩
          have HR4 := hid hr4
          have HB4 := hid (HBL.out.trans hb4)
          have n1 : w4.cell? ⟨w.heap.size, 1, none⟩ = some (.string X) := by
            have := (hk4.block _ (lt_of_heap BXT.out) (fun h => h.elim (fun e : w.heap.size = g => by omega) HVB.out)).trans BXT.out
            rw [Lib.cell_of_heap this]
            rfl
          clear hr4 hb4 hk4 CAD BXT HVB HPB t0 t1 t2 t3
          go_wp2_with fail
          refine (CX.out _).mono ?_
          rintro e' w5 ⟨rfl, hb5⟩
          have HR5 := hid (HR4.out.below hb5)
          have HB5 := hid (HB4.out.trans (hb5.mono (Nat.le_of_lt (lt_of_heap HR4.out.rdr.heap))))
          have CAE := hid (cAdd B g s (e + 2) m tx v4 (es ++ [E]) ⟨⟨2, X, [], ⟨#[]⟩⟩, none, 0⟩ w5 HR5.out ⟨fun h => absurd h (Nat.not_lt_zero _), fun g o h => absurd h (Nat.not_lt_zero _), fun x hx _ h => absurd h (Nat.not_lt_zero _)⟩ ⟨hpz, Nat.zero_le _, fun x hx => absurd hx List.not_mem_nil, Nat.zero_le _⟩ (by rw [List.length_append]; show es.length + 1 ≤ 1000; omega))
          have HLN := hid (show (es ++ [E]).length + 1 = es.length + 2 by rw [List.length_append]; rfl)
          rw [HLN.out] at CAE
          have CAE := hid (show Calls Tryz.prog 167 #[.pointer (some ⟨g, 0, none⟩), .agg #[.int .i64 2, .string X, .slice none 0 0, .string ⟨#[]⟩]] w5 fun x w' => x = .returned (.bool (decide (es.length + 2 ≤ 120) && tokB ⟨2, X, [], ⟨#[]⟩⟩)) ∧ (∃ v', RdT w' B g s (e + 2) m tx v' (es ++ [E] ++ [⟨⟨2, X, [], ⟨#[]⟩⟩, none, 0⟩])) ∧ Below g w5 w' ∧ KeepB (fun k => k = g ∨ v4.ownBlock = some k) w5 w' from CAE.out)
          rw [HTC.out] at CAE
          clear hb5 CX HLN
          go_wp2_with fail
          refine CAE.out.mono ?_
          rintro e' w6 ⟨rfl, hx6, hb6, -⟩
          have HF := hid (HPO.out TC w6 (by trivial) HTC.out (HB5.out.trans hb6) hx6)
          clear hx6 hb6 CAE HPO
          go_wp2_with fail
          try simp only [Exit.jump]
          go_ret
          exact HF.out
      · have HE := hid (ST.out.1.stops (by rw [ST.out.2]; exact h32))
        have H62 := hid (show ¬ sgnAt s e = 62 ∧ ¬ (sgnAt s e = 47 ∧ sgnAt s (e + 1) = 62) from ⟨by rw [ST.out.2]; omega, fun h => h62 h.2⟩)
        have e62 : (((sgnAt s (e + 1) : Nat) : Int) == 62) = false := by simp; omega
        generalize hS2 : sgnAt s (e + 1) = S2 at *
        have HKP := hid ST.out.1.kp
        clear ST h62
        go_wp2_with fail
        refine CN.out.mono ?_
        rintro e' w2 ⟨rfl, hr2, hk2⟩
        have HBF := hid ((HKP.out.trans hk2).below (Nat.le_of_lt hgl) (fun k e => by rw [e]; exact Nat.le_refl _))
        clear hr2 hk2 CN HKP
        go_wp2_with fail
        try simp only [Exit.jump]
        go_ret
        obtain ⟨e1, h1, _, h3⟩ := HE.out
        refine OpPost.odd e1 e acc h1 h3 H62.out.1 (by rw [hS2]; exact H62.out.2) HBF.out rfl
    · have e47 : (((ch : Nat) : Int) == 47) = false := by simp; omega
      by_cases h62 : ch = 62
      · have e62 : (((ch : Nat) : Int) == 62) = true := by simp; omega
        obtain ⟨e1, h1, b2, h3⟩ := ST.out.1.stops (by rw [ST.out.2]; exact h32)
        have HE := hid (And.intro h1 h3)
        have CAD := hid (cAdd B g s (e + 1) m tx v es ⟨⟨1, s.extract p e1, acc, ⟨#[]⟩⟩, ta, tc⟩ w1 (HT.out.next ST.out.1.rdr ST.out.1.kp) (ST.out.1.fit HT.out _ rfl) (ST.out.1.tkSz hs e1) (by omega))
        have CAD := hid (show Calls Tryz.prog 167 #[.pointer (some ⟨g, 0, none⟩), .agg #[.int .i64 1, .string (s.extract p e1), .slice ta acc.length tc, .string ⟨#[]⟩]] w1 fun x w' => x = .returned (.bool (decide (es.length + 1 ≤ 120) && tokB ⟨1, s.extract p e1, acc, ⟨#[]⟩⟩)) ∧ (∃ v', RdT w' B g s (e + 1) m tx v' (es ++ [⟨⟨1, s.extract p e1, acc, ⟨#[]⟩⟩, ta, tc⟩])) ∧ Below g w1 w' ∧ KeepB (fun k => k = g ∨ v.ownBlock = some k) w1 w' from CAD.out)
        have HSE := hid ST.out.2
        have HBL := hid (ST.out.1.kp.below (Nat.le_of_lt hgl) (fun k e => by rw [e]; exact Nat.le_refl _))

        obtain ⟨t0, t1, t2, t3, tf⟩ := b2.cellsT
        have HPO := hid (fun TB w' (hx : (decide (es.length + 1 ≤ 120) && tokB ⟨1, s.extract p e1, acc, ⟨#[]⟩⟩) = TB) (hb : Below g w w') (hr : ∃ v', RdT w' B g s (e + 1) m tx v' (es ++ [⟨⟨1, s.extract p e1, acc, ⟨#[]⟩⟩, ta, tc⟩])) => OpPost.opens (B := B) (g := g) (es := es) (w := w) (w' := w') (x := .returned (.bool TB)) e1 e acc HE.out.1 HE.out.2 (HSE.out.trans h62) (by rw [hx]) hb (let ⟨v', h⟩ := hr; ⟨m, v', ta, tc, h⟩))
        obtain ⟨TB, hTB⟩ : ∃ TB, (decide (es.length + 1 ≤ 120) && tokB ⟨1, s.extract p e1, acc, ⟨#[]⟩⟩) = TB := ⟨_, rfl⟩
        rw [hTB] at CAD
        have HPP := hid (fun w' => HPO.out TB w' hTB)
        clear hTB HPO ST HE b2 h1 h3 tf
        generalize s.extract p e1 = X at *
        generalize acc.length = nA at *
        go_wp2_with fail
        refine CAD.out.mono ?_
        rintro e' w4 ⟨rfl, hx4, hb4, -⟩
        have HF := hid (HPP.out w4 (HBL.out.trans hb4) hx4)
        clear hx4 hb4 CAD HPP
        go_wp2_with fail
        try simp only [Exit.jump]
        go_ret
        exact HF.out
      · have e62 : (((ch : Nat) : Int) == 62) = false := by simp; omega
        have HE := hid (ST.out.1.stops (by rw [ST.out.2]; exact h32))
        have H62 := hid (show ¬ sgnAt s e = 62 ∧ ¬ (sgnAt s e = 47 ∧ sgnAt s (e + 1) = 62) from ⟨by rw [ST.out.2]; omega, fun h => by rw [ST.out.2] at h; omega⟩)
        have HBF := hid (ST.out.1.kp.below (Nat.le_of_lt hgl) (fun k e => by rw [e]; exact Nat.le_refl _))
        clear ST
        go_wp2_with fail
        try simp only [Exit.jump]
        go_ret
        obtain ⟨e1, h1, _, h3⟩ := HE.out
        exact OpPost.odd e1 e acc h1 h3 H62.out.1 H62.out.2 HBF.out rfl

end Go.Proofs.YteninofjeidljaaGreat

namespace Go.Proofs.YteninofjeidljaaGreat

open Go.RowKit

set_option linter.unusedVariables false

set_option linter.unusedSimpArgs false

set_option maxRecDepth 8000 in
set_option maxHeartbeats 16000000 in
theorem opWalk2 (B g : Nat) (s : ByteArray) (p : Nat) (tx : ByteArray) (v : Value) (es : List Tn.E) (w : World) (HT : Hid (RdT w B g s (p + 1) p tx v es)) (hgl : g < w.heap.size) (hp : p < s.size) (hs : s.size ≤ 4000) (hn : es.length ≤ 900) (h0 : ∀ i (hi : i < s.size), ¬ s[i].toNat = 0) :
    ∀ c, Tryz.f144.body.bind scopeIn = some c → ∀ r, findLabel c 2 = some r → ∀ a w1, OJ2 g s p tx v w a w1 → r.wp Tryz.prog (jumpsTo (fun l' a' w' => OJ g s p tx v w l' a' w' ∧ OMU s g l' a' w' < OMU s g 2 a w1) (bodyPost Tryz.prog Tryz.f144 (OpPost B g s p tx es w))) a w1 := by
  refine at_scope (P := fun c => ∀ r, findLabel c 2 = some r → _) rfl ?_
  refine at_scope rfl ?_
  rintro a' w1 ⟨e, f, q, acc, ta, tc, x, y, u5, u6, u7, u8, u9, u10, u11, u12, u13, u14, u15, u16, u17, u18, u19, u20, u21, u22, u23, u24, u25, u26, u27, u28, u29, u30, u31, u32, u33, u34, u35, u36, u37, u38, u39, u40, u41, u42, u43, u44, u45, u46, u47, u48, u49, u50, u51, u52, u53, u54, u55, u56, u57, u58, u59, u60, u61, u62, u63, u64, u65, u66, u67, u68, u69, u70, u71, u72, u73, rfl, ST⟩
  have CN := hid (cNext g s q (e + 1) tx v w1 ST.out.1.rdr (by have := ST.out.2.le; omega) (by omega))
  go_wp2_with fail
  refine CN.out.mono ?_
  rintro e' w2 ⟨rfl, hr2, hk2⟩
  have HR2 := hid hr2
  have HO2 := hid (ST.out.1.keep hgl hr2 hk2)
  clear hr2 hk2 CN
  by_cases hq : q < s.size
  · have hz := h0 q hq
    have HSG := hid (show sgnAt s q = s[q].toNat by unfold sgnAt; rw [dif_pos hq])
    have hne0 : (((s[q].toNat : Nat) : Int) == 0) = false := by simp; omega
    rw [HSG.out]
    by_cases h61 : s[q].toNat = 61
    · have heq : (((s[q].toNat : Nat) : Int) == 61) = true := by simp; omega
      have HSA := hid (show StopsAt eqT s (e + 1) q ∧ sgnAt s e = 32 from ⟨⟨ST.out.2.ge, ⟨hq, by unfold eqT; rw [h61]; rfl⟩, ST.out.2.no⟩, ST.out.2.bl⟩)
      have HMUA := hid (fun w4 (hr : Rdr w4 g s (q + 1) (e + 1) tx v) => show 5 * (s.size + 5 - rdAt w4 g) + (3 - 3) < 5 * (s.size + 5 - rdAt w1 g) + (3 - 2) by rw [rdAt_is hr, rdAt_is ST.out.1.rdr]; omega)
      have CP := hid (cPiece g s (q + 1) (e + 1) tx v w2 HR2.out (by have := ST.out.2.ge; omega) (by omega) (by omega))
      have HEX := hid (show pieceS s (e + 1) (q + 1) = s.extract (e + 1) q from rfl)
      rw [HEX.out] at CP
      generalize s[q].toNat = ch at *
      clear ST HSG HEX
      go_wp2_with fail
      refine CP.out.mono ?_
      rintro e' w3 ⟨rfl, hb3⟩
      have HO3 := hid (HO2.out.below hb3)
      obtain ⟨t0, t1, tf⟩ : _ ∧ _ ∧ _ := (let ⟨_, _, h, _⟩ := HO3.out.box; h.cellsA)
      have tf0 := tf 0
      have HO4 := hid (HO3.out.setX hgl (s.extract (e + 1) q))
      have HMU := hid (HMUA.out _ HO4.out.rdr)
      have HJ := hid (And.intro HO4.out HSA.out)
      clear hb3 CP HMUA tf HO2 HO3 HO4
      go_wp2_with fail
      go_step3
      exact ⟨⟨e, f, q, acc, ta, tc, y, _, _, _, _, _, _, _, _, _, _, _, _, _, _, _, _, _, _, _, _, _, _, _, _, _, _, _, _, _, _, _, _, _, _, _, _, _, _, _, _, _, _, _, _, _, _, _, _, _, _, _, _, _, _, _, _, _, _, _, _, _, _, _, _, _, _, _, _, _, rfl, HJ.out⟩, HMU.out⟩
    · have hneq : (((s[q].toNat : Nat) : Int) == 61) = false := by simp; omega
      have HJ := hid (And.intro HO2.out (ST.out.2.more hq h61))
      have HMU := hid (show 5 * (s.size + 5 - rdAt w2 g) + (3 - 2) < 5 * (s.size + 5 - rdAt w1 g) + (3 - 2) by rw [rdAt_is HR2.out, rdAt_is ST.out.1.rdr]; omega)
      generalize s[q].toNat = ch at *
      clear ST
      go_wp2_with fail
      go_step3
      exact ⟨⟨e, f, q + 1, acc, ta, tc, x, y, _, _, _, _, _, _, _, _, _, _, _, _, _, _, _, _, _, _, _, _, _, _, _, _, _, _, _, _, _, _, _, _, _, _, _, _, _, _, _, _, _, _, _, _, _, _, _, _, _, _, _, _, _, _, _, _, _, _, _, _, _, _, _, _, _, _, _, _, _, rfl, HJ.out⟩, HMU.out⟩
  · have HE := hid (ST.out.1.noAt (fun f' => atL_noEq ST.out.2.bl (fun i hi h1 => ST.out.2.no i hi h1 (by omega))))
    have HSG := hid (show sgnAt s q = 0 by unfold sgnAt; rw [dif_neg hq])
    have HBF := hid (HO2.out.kp.below (Nat.le_of_lt hgl) (fun k e => by rw [e]; exact Nat.le_refl _))
    rw [HSG.out]
    clear ST
    go_wp2_with fail
    try simp only [Exit.jump]
    go_ret
    obtain ⟨e1, h1, h2⟩ := HE.out
    exact OpPost.badAt e1 h1 h2 HBF.out rfl

end Go.Proofs.YteninofjeidljaaGreat

namespace Go.Proofs.YteninofjeidljaaGreat

open Go.RowKit

set_option linter.unusedVariables false

set_option linter.unusedSimpArgs false

set_option maxRecDepth 8000 in
set_option maxHeartbeats 16000000 in
theorem opWalk3 (B g : Nat) (s : ByteArray) (p : Nat) (tx : ByteArray) (v : Value) (es : List Tn.E) (w : World) (HT : Hid (RdT w B g s (p + 1) p tx v es)) (hgl : g < w.heap.size) (hp : p < s.size) (hs : s.size ≤ 4000) (hn : es.length ≤ 900) (h0 : ∀ i (hi : i < s.size), ¬ s[i].toNat = 0) :
    ∀ c, Tryz.f144.body.bind scopeIn = some c → ∀ r, findLabel c 3 = some r → ∀ a w1, OJ3 g s p tx v w a w1 → r.wp Tryz.prog (jumpsTo (fun l' a' w' => OJ g s p tx v w l' a' w' ∧ OMU s g l' a' w' < OMU s g 3 a w1) (bodyPost Tryz.prog Tryz.f144 (OpPost B g s p tx es w))) a w1 := by
  refine at_scope (P := fun c => ∀ r, findLabel c 3 = some r → _) rfl ?_
  refine at_scope rfl ?_
  rintro a' w1 ⟨e, f, q, acc, ta, tc, y, u5, u6, u7, u8, u9, u10, u11, u12, u13, u14, u15, u16, u17, u18, u19, u20, u21, u22, u23, u24, u25, u26, u27, u28, u29, u30, u31, u32, u33, u34, u35, u36, u37, u38, u39, u40, u41, u42, u43, u44, u45, u46, u47, u48, u49, u50, u51, u52, u53, u54, u55, u56, u57, u58, u59, u60, u61, u62, u63, u64, u65, u66, u67, u68, u69, u70, u71, u72, u73, rfl, ST⟩
  have CV := hid (cValue B g s (q + 1) (e + 1) tx v es w1 (HT.out.next ST.out.1.rdr ST.out.1.kp) (by obtain ⟨hl, _⟩ := ST.out.2.1.2.1; omega) hs h0)
  go_wp2_with fail
  refine CV.out.mono ?_
  rintro e' w2 ⟨hk2, hx⟩
  have HK2 := hid hk2
  clear hk2 CV
  rcases hx with ⟨hbad, rfl⟩ | ⟨q3, h34, hst, h4, rfl, hr2⟩
  · have HE := hid (ST.out.1.noAt (fun f' => atL_noVal ST.out.2.2 ST.out.2.1 hbad))
    clear hbad
    have BX2 := hid (let ⟨_, _, h, _⟩ := ST.out.1.box; (h.keep HK2.out hgl).cellsA)
    obtain ⟨t0, t1, tf⟩ := BX2.out
    have tf1 := tf 1
    have HBF := hid (fun u => (kb_above (ST.out.1.kp.trans HK2.out) (w.heap.size + 1) 1 u (by omega)).below (Nat.le_of_lt hgl) (fun k e => by rw [e]; exact Nat.le_refl _))
    clear ST BX2 tf
    go_wp2_with fail
    try simp only [Exit.jump]
    go_ret
    obtain ⟨e1, h1, h2⟩ := HE.out
    exact OpPost.badAt e1 h1 h2 (HBF.out _) rfl
  · cases hu : unescL (s.extract (q + 2) q3).data.toList with
    | none =>
      have HE := hid (ST.out.1.noAt (fun f' => atL_badVal ST.out.2.2 ST.out.2.1 h34 hst h4 hu))
      have HU := hid (show (Option.none : Option (List UInt8)).isSome = false from rfl)
      rw [HU.out]
      clear h34 hst h4 hu hr2 HU
      generalize unS (s.extract (q + 1 + 1) q3) = U at *
      have BX2 := hid (let ⟨_, _, h, _⟩ := ST.out.1.box; (h.keep HK2.out hgl).cellsA)
      obtain ⟨t0, t1, tf⟩ := BX2.out
      have tf1 := tf 1
      have HBF := hid (fun u => (kb_above (ST.out.1.kp.trans HK2.out) (w.heap.size + 1) 1 u (by omega)).below (Nat.le_of_lt hgl) (fun k e => by rw [e]; exact Nat.le_refl _))
      clear ST BX2 tf
      go_wp2_with fail
      try simp only [Exit.jump]
      go_ret
      obtain ⟨e1, h1, h2⟩ := HE.out
      exact OpPost.badAt e1 h1 h2 (HBF.out _) rfl
    | some u =>
      have HO2 := hid (ST.out.1.keep hgl hr2.rdr HK2.out)
      have HU := hid (show (some u).isSome = true from rfl)
      have HUB := hid (show unS (s.extract (q + 1 + 1) q3) = bytesOf u by unfold unS; rw [hu]; rfl)
      rw [HU.out, HUB.out]
      generalize hUU : bytesOf u = U at *
      generalize hNM : s.extract (e + 1) q = NM at *
      have BX2 := hid (let ⟨_, _, h, _⟩ := HO2.out.box; h.cellsA)
      obtain ⟨t0, t1, tf⟩ := BX2.out
      have tf1 := tf 1
      have HO3 := hid (HO2.out.setY hgl U)
      clear BX2 tf
      obtain ⟨eT, -, bT, -⟩ := HO3.out.box
      obtain ⟨d0, d1, d2, d3, df⟩ := bT.cellsT
      obtain ⟨c0, c1, cf⟩ := bT.cellsA
      have df2 := df 2
      clear df cf bT
      obtain ⟨i0, hi, hz0, hz1, hz2⟩ := info_parts infoAt
      have HOA := hid (HO3.out.own.alloc (.cells #[.string NM, .string U] 114))
      have hla : acc.length ≤ 4000 := by have := HO3.out.few; have := HO3.out.le; omega
      go_wp2_with (at_builtin; refine wpList_append_own _ rfl _ _ 40 rfl (w.heap.size + 2) 114 i0 _ 2 32 Tryz.underlying40 hi hz0 hz1 hz2 rfl (by decide) _ _ _ rfl HOA.out _ 1 1 [.string NM, .string U] rfl rfl ?c1 (two_one NM U) (by unfold maxLen; omega) (by omega) ?c5 ?_)
      case c1 =>
        have e3 : w2.heap.size = (w2.setCell ⟨w.heap.size + 1, 1, none⟩ (.string U)).heap.size := by simp
        rw [e3]
        exact two_cells _ _ _ _
      case c5 =>
        have := (let ⟨_, _, h, _⟩ := HO2.out.box; lt_of_heap h.att)
        simp
        omega
      intro v5 w5 ho5 hg5 hn5
      obtain ⟨a5, c5, hv5⟩ : ∃ a5 c5, v5 = .slice a5 (acc.length + 1) c5 := by
        rcases ho5.2 with ⟨_, h0⟩ | ⟨g5, cap5, _, hv, _⟩
        · omega
        · exact ⟨_, _, hv⟩
      subst hv5
      have hl3 : q3 < s.size := (let ⟨h, _⟩ := h4; h)
      have hq3 : q + 2 ≤ q3 := hst.1
      have heq : e + 1 ≤ q := ST.out.2.1.1
      have hxz : NM.size ≤ 4000 := by rw [← hNM, ByteArray.size_extract]; omega
      have hyz : U.size ≤ 4000 := by
        rw [← hUU, bytesOf_size]
        have := unesc_le hu
        rw [ext_list7, List.length_take, List.length_drop] at this
        have hz : s.data.toList.length = s.size := Array.length_toList
        omega
      obtain ⟨⟨p2, pf2⟩, f5, hO5⟩ := HO3.out.push hgl ho5 hg5 (fun f' => by rw [← hNM, ← hUU]; exact atL_val ST.out.2.2 ST.out.2.1 h34 hst h4 hu) (by omega) hl3 hxz hyz
      have HO5 := hid hO5
      have CN := hid (cNext g s (q3 + 1) (q + 1 + 1) tx v _ hO5.rdr (by omega) (by omega))
      have HMUA := hid (fun w4 (hr : Rdr w4 g s (q3 + 1 + 1) (q + 1 + 1) tx v) => show 5 * (s.size + 5 - rdAt w4 g) + (3 - 1) < 5 * (s.size + 5 - rdAt w1 g) + (3 - 3) by rw [rdAt_is hr, rdAt_is ST.out.1.rdr]; omega)
      obtain ⟨SG, hSG⟩ : ∃ SG, sgnAt s (q3 + 1) = SG := ⟨_, rfl⟩
      rw [hSG] at CN
      clear hO5 ho5 hg5 hn5 h34 hst hu hr2 HUB HU HOA HO2 HO3 ST t0 t1 tf1 d0 d1 d2 d3 c0 c1 df2 hi hz0 hz1 hz2
      go_wp2_with fail
      refine CN.out.mono ?_
      rintro e' w6 ⟨rfl, hr6, hk6⟩
      have HJ := hid (And.intro (HO5.out.keep hgl hr6 hk6) hSG)
      have HMU := hid (HMUA.out _ hr6)
      clear hr6 hk6 CN HMUA HO5
      go_wp2_with fail
      go_step3
      exact ⟨⟨q3 + 1, SG, f5, acc ++ [(⟨NM, U⟩ : At)], a5, c5, q + 1 + 1, NM, U, _, _, _, _, _, _, _, _, _, _, _, _, _, _, _, _, _, _, _, _, _, _, _, _, _, _, _, _, _, _, _, _, _, _, _, _, _, _, _, _, _, _, _, _, _, _, _, _, _, _, _, _, _, _, _, _, _, _, _, _, _, _, _, _, _, _, _, _, rfl, HJ.out⟩, HMU.out⟩

end Go.Proofs.YteninofjeidljaaGreat
